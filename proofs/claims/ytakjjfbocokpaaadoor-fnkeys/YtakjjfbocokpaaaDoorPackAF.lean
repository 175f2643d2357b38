/-
  Texts of this proof, put together: MathU, MathB, StrK, ChaT, OwnI.
-/
import Derived.Test.YtakjjfbocokpaaaDoorPackAD
import Derived.Test.YtakjjfbocokpaaaDoorPackAC
import Derived.Test.YtakjjfbocokpaaaDoorPackAE
import Derived.Test.YtakjjfbocokpaaaDoorPackAA
import Derived.Test.YtakjjfbocokpaaaDoorPackAB
import Derived.WalkKit
import Derived.ProofKit

/-
  What Wrap and Unwrap answer, on lists of bytes: nothing here speaks of the program.
-/
namespace Go.Proofs.YtakjjfbocokpaaaDoor
open Go.RowKit

def crcI (l : List UInt8) : Int := 4294967295 - (crcRun 4294967295 l : Int)
theorem crcI_bd (l : List UInt8) : 0 ≤ crcI l ∧ crcI l < 4294967296 := by
  have := crcRun_lt l 4294967295 (by omega)
  unfold crcI
  omega
def wrapOk (m : List UInt8) (n : Int) (k : List UInt8) : Prop := k.length = 32 ∧ m.length = 32 ∧ 0 ≤ n ∧ n ≤ 562949953421311
instance (m : List UInt8) (n : Int) (k : List UInt8) : Decidable (wrapOk m n k) := inferInstanceAs (Decidable (_ ∧ _))
/-- the stream that hides a key, and brings it back -/
def hideV (m : List UInt8) (n : Int) (k : List UInt8) : List UInt8 := streamV m 0 (nonceL 1 n) k
def wrapV (m : List UInt8) (n : Int) (k : List UInt8) : List UInt8 := if wrapOk m n k then fixedV (crcI (hideV m n k)) 4 ++ hideV m n k else []
theorem nonceL_bad (n : Int) (h : ¬ (0 ≤ n ∧ n ≤ 562949953421311)) : nonceL 1 n = [] := by unfold nonceL; rw [if_neg (by omega)]
theorem strOk_of_wrap {m : List UInt8} {n : Int} {k : List UInt8} (hm : m.length = 32) (hn : 0 ≤ n ∧ n ≤ 562949953421311) (hk : k.length = 32) : StrOk m 0 (nonceL 1 n) k := by
  have h := length_nonceL 1 n ⟨by omega, by omega, hn.1, hn.2⟩
  refine ⟨⟨hm, h, by omega, by omega⟩, ⟨hm, h, ?_, ?_⟩⟩ <;> rw [hk] <;> simp
theorem length_hideV {m : List UInt8} {n : Int} {k : List UInt8} (h : wrapOk m n k) : (hideV m n k).length = 32 := by
  unfold hideV
  rw [streamV_ok (strOk_of_wrap h.2.1 h.2.2 h.1), length_strL, h.1]
theorem hideV_bad {m : List UInt8} {n : Int} {k : List UInt8} (hk : k.length = 32) (h : ¬ wrapOk m n k) : hideV m n k = [] := by
  unfold hideV
  refine streamV_no fun hs => h ⟨hk, hs.1.1, ?_⟩
  refine Decidable.byContradiction fun hn => ?_
  have h2 := hs.1.2.1
  rw [nonceL_bad n hn] at h2
  simp at h2
theorem fixedV4 (c : Int) (h : 0 ≤ c ∧ c < 4294967296) : (fixedV c 4).length = 4 := by
  unfold fixedV
  rw [if_pos ⟨by omega, by omega, h.1⟩]
  unfold fixedL
  rw [if_pos (by rw [show (4 : Int).toNat = 4 from rfl]; exact Nat.div_eq_of_lt (by omega)), length_lowB]
  rfl
theorem length_wrapV {m : List UInt8} {n : Int} {k : List UInt8} (h : wrapOk m n k) : (wrapV m n k).length = 36 := by
  unfold wrapV
  rw [if_pos h, List.length_append, fixedV4 _ (crcI_bd _), length_hideV h]
def unOk (m : List UInt8) (n : Int) (s : List UInt8) : Prop := s.length = 36 ∧ wrapV m n (hideV m n (s.drop 4)) = s
instance (m : List UInt8) (n : Int) (s : List UInt8) : Decidable (unOk m n s) := inferInstanceAs (Decidable (_ ∧ _))
def unKey (m : List UInt8) (n : Int) (s : List UInt8) : List UInt8 := if unOk m n s then hideV m n (s.drop 4) else []
def unB (m : List UInt8) (n : Int) (s : List UInt8) : Bool := decide (unOk m n s)
theorem unKey_yes {m : List UInt8} {n : Int} {s : List UInt8} (h : unOk m n s) : unKey m n s = hideV m n (s.drop 4) ∧ unB m n s = true := ⟨by unfold unKey; rw [if_pos h], decide_eq_true h⟩
theorem unKey_no {m : List UInt8} {n : Int} {s : List UInt8} (h : ¬ unOk m n s) : unKey m n s = [] ∧ unB m n s = false := ⟨by unfold unKey; rw [if_neg h], decide_eq_false h⟩
theorem unOk_ok {m : List UInt8} {n : Int} {s : List UInt8} (h : unOk m n s) : m.length = 32 ∧ 0 ≤ n ∧ n ≤ 562949953421311 := by
  obtain ⟨h1, h2⟩ := h
  by_cases hw : wrapOk m n (hideV m n (s.drop 4))
  · exact hw.2
  · unfold wrapV at h2
    rw [if_neg hw] at h2
    rw [← h2] at h1
    simp at h1
end Go.Proofs.YtakjjfbocokpaaaDoor

/-
  What the law of the key device asks, on lists: nothing here speaks of the program.
-/
namespace Go.Proofs.YtakjjfbocokpaaaDoor
open Go.RowKit

theorem wrap_un {m : List UInt8} {n : Int} {s : List UInt8} (h : unB m n s = true) : wrapV m n (unKey m n s) = s := by
  have h1 : unOk m n s := of_decide_eq_true h
  rw [(unKey_yes h1).1]
  exact h1.2
theorem wipe_ok {m : ByteArray} {L : List Slot} {x t : Int} (h : (wipeV m L x t).ok = true) :
    ∃ i, devOkB m L x = true ∧ x ≠ 1000000 ∧ slotIx L t = some i ∧ wipeV m L x t = ⟨m, L.eraseIdx i, x + 1, true⟩ := by
  cases hd : devOkB m L x with
  | false => rw [wipeV_bad hd] at h; cases h
  | true =>
    by_cases hx : x = 1000000
    · rw [wipeV_full hd hx] at h; cases h
    · cases hi : slotIx L t with
      | none => rw [wipeV_none hd hi] at h; cases h
      | some i => exact ⟨i, rfl, hx, rfl, wipeV_some hd hx hi⟩
theorem wipe_gone {m : ByteArray} {L : List Slot} {x t : Int} (h : (wipeV m L x t).ok = true) : keyOfV (wipeV m L x t).m (wipeV m L x t).L (wipeV m L x t).x t = noKey := by
  obtain ⟨i, hd, hx, hi, e⟩ := wipe_ok h
  rw [e]
  show keyOfV m (L.eraseIdx i) (x + 1) t = noKey
  unfold keyOfV
  split
  · rw [← filtL_some (devOkB_iff.1 hd).2.1.2.1 hi, slotIx_none (fun j hj => ?_)]
    · rfl
    · rw [tn_at _ j hj]
      have := List.getElem_mem hj
      have := (List.mem_filter.1 this).2
      simpa using this
  · rfl
theorem wipe_had {m : ByteArray} {L : List Slot} {x t : Int} (h : (wipeV m L x t).ok = true) : (keyOfV m L x t).size = 32 := by
  obtain ⟨i, hd, hx, hi, e⟩ := wipe_ok h
  rw [keyOfV_yes hd, hi]
  obtain ⟨hi', _⟩ := slotIx_of_some hi
  exact (slotOkB_iff.1 ((devOkB_iff.1 hd).2.1.2.2 i hi')).2.2
theorem wipe_x {m : ByteArray} {L : List Slot} {x t : Int} (h : (wipeV m L x t).ok = true) : (wipeV m L x t).x = x + 1 ∧ 0 ≤ x ∧ x ≤ 1000000 := by
  obtain ⟨i, hd, hx, hi, e⟩ := wipe_ok h
  rw [e]
  exact ⟨rfl, (devOkB_iff.1 hd).2.2⟩
theorem length_wipeV (m : ByteArray) (L : List Slot) (x t : Int) : (wipeV m L x t).L.length ≤ L.length := by
  unfold wipeV
  split
  · split
    · exact Nat.le_refl _
    · split
      · exact List.length_eraseIdx_le _ _
      · exact Nat.le_refl _
  · exact Nat.zero_le _
theorem add_ok {m : ByteArray} {L : List Slot} {x t : Int} {k : ByteArray} (h : (addV m L x t k).ok = true) : devOkB m L x = true ∧ devOkB m (insL L t k) x = true ∧ addV m L x t k = ⟨m, insL L t k, x, true⟩ := by
  cases hd : devOkB m L x with
  | false => rw [addV_bad hd] at h; cases h
  | true =>
    cases h2 : devOkB m (insL L t k) x with
    | false => rw [addV_no hd h2] at h; cases h
    | true => exact ⟨rfl, rfl, addV_yes hd h2⟩
theorem add_valid {m : ByteArray} {L : List Slot} {x t : Int} {k : ByteArray} (h : (addV m L x t k).ok = true) : devOkB (addV m L x t k).m (addV m L x t k).L (addV m L x t k).x = true := by
  obtain ⟨_, h2, e⟩ := add_ok h
  rw [e]; exact h2
theorem add_key {m : ByteArray} {L : List Slot} {x t : Int} {k : ByteArray} (h : (addV m L x t k).ok = true) : keyOfV (addV m L x t k).m (addV m L x t k).L (addV m L x t k).x t = k := by
  obtain ⟨_, h2, e⟩ := add_ok h
  rw [e]
  show keyOfV m (insL L t k) x t = k
  have hp := posL_le L t
  have hl : posL L t < (insL L t k).length := by rw [length_insL]; omega
  have hg : (insL L t k)[posL L t]? = some (t, k) := by
    unfold insL
    rw [List.getElem?_append_right (by rw [List.length_take]; omega), List.length_take, Nat.min_eq_left hp, Nat.sub_self]
    rfl
  have hg' : (insL L t k)[posL L t] = (t, k) := by
    rw [List.getElem?_eq_getElem hl] at hg
    exact Option.some.inj hg
  rw [keyOfV_yes h2, slotIx_some (posL L t) hl (by rw [tn_at _ _ hl, hg']) (fun j hj => ?_)]
  · show ky _ _ = k
    rw [ky_at _ _ hl, hg']
  · have := (Asc.lt (devOkB_iff.1 h2).2.1.2.1) j (posL L t) hj hl
    rw [tn_at _ (posL L t) hl, hg'] at this
    have h3 : tn (insL L t k) j < t := this
    omega
theorem add_same {m : ByteArray} {L : List Slot} {x t : Int} {k : ByteArray} (hd : devOkB m L x = true) (h : (addV m L x t k).ok = false) : addV m L x t k = ⟨m, L, x, false⟩ := by
  cases h2 : devOkB m (insL L t k) x with
  | false => exact addV_no hd h2
  | true => rw [addV_yes hd h2] at h; cases h
end Go.Proofs.YtakjjfbocokpaaaDoor

/-
  Strings as lists of bytes, in the words of the walk; l1In where its answer is known.
-/
namespace Go.Proofs.YtakjjfbocokpaaaDoor
open Go.ChangeShapes Go.WideShapes Go.ChangeAt Go.RowKit

theorem bl_of (l : List UInt8) : bl ⟨l.toArray⟩ = l := rfl
theorem size_of (l : List UInt8) : (ByteArray.mk l.toArray).size = l.length := by simp [ByteArray.size]
theorem run_cat (a b : List UInt8) (h : a.length + b.length ≤ 1048576) (W : World) : (Op.stringOp .add ⟨a.toArray⟩ ⟨b.toArray⟩).run Tryd.prog W = .ok (.string ⟨(a ++ b).toArray⟩) W := by
  rw [run_string_add_sum (P := Tryd.prog) (w := W) _ _ (by rw [size_of, size_of]; omega), ByteArray.mk_append_mk]
theorem below_of_drew' {w w' : World} (h : Below w.drew.heap.size w.drew w') : Below w.heap.size w w' := ⟨h.os, h.tape, h.output, h.size, h.block⟩
theorem ne_str {a : List UInt8} {s : ByteArray} (h : a ≠ bl s) : (a == s.toList) = false := by
  rw [beq_eq_false_iff_ne, ByteArray.toList_eq]
  exact h
theorem str_of (s : ByteArray) : (⟨(bl s).toArray⟩ : ByteArray) = s := by
  obtain ⟨⟨l⟩⟩ := s
  rfl
theorem cut_mk (l : List UInt8) (d : Nat) : (ByteArray.mk l.toArray).extract d l.length = ⟨(l.drop d).toArray⟩ := by
  have := ext_drop (ByteArray.mk l.toArray) d
  rw [size_of] at this
  exact this
theorem in_yes (x a b : Int) (w : World) (h0 : a ≤ x) (h1 : x ≤ b) :
    Calls Tryd.prog 52 #[.int .i64 x, .int .i64 a, .int .i64 b] w fun e w' => e = .returned (.bool true) ∧ w = w' :=
  (l1In_any x a b w).mono fun e w' ⟨he, hw⟩ => ⟨by rw [he, decide_eq_true h0, decide_eq_true h1]; rfl, hw⟩
theorem in_no (x a b : Int) (w : World) (h : x < a ∨ b < x) :
    Calls Tryd.prog 52 #[.int .i64 x, .int .i64 a, .int .i64 b] w fun e w' => e = .returned (.bool false) ∧ w = w' :=
  (l1In_any x a b w).mono fun e w' ⟨he, hw⟩ => ⟨by
    rw [he]
    rcases h with h | h
    · rw [decide_eq_false (by omega : ¬ a ≤ x)]; rfl
    · rw [decide_eq_false (by omega : ¬ x ≤ b), Bool.and_false], hw⟩
end Go.Proofs.YtakjjfbocokpaaaDoor

/-
  Contract of (*impl.chaWords).text.
-/
namespace Go.Proofs.YtakjjfbocokpaaaDoor
open Go.ChangeShapes Go.WideShapes Go.ChangeAt Go.RowKit

set_option maxRecDepth 100000

theorem put_newI (g n p m : Nat) (q : Int) (L cs : List UInt8) (vs : Array Value) (w : World)
    (hg : Holds8 5 w g L) (hlt : g < w.heap.size) (hq : (p : Int) = q) (hv : vs = (byteVals cs).toArray) (hL : L.length = n) (hm : cs.length = m) (hfit : p + m ≤ n) (hpos : 0 < m) (hn : n ≤ 1099511627776) :
    Calls Tryd.prog 104 #[.slice (some ⟨g, 0, none⟩) n n, .int .i64 q, .slice (some ⟨w.heap.size, 0, none⟩) m m] (w.alloc (.cells vs 5)) (PutNew 5 w g p m L cs) := by
  subst hq
  exact put_new g n p m L cs vs w hg hlt hv hL hm hfit hpos hn
theorem word4_arr (x : Nat) (h : x < 4294967296) : #[Value.int .u8 ((x : Int) % 256), .int .u8 ((x : Int) / 256 % 256), .int .u8 ((x : Int) / 65536 % 256), .int .u8 ((x : Int) / 16777216)] = (byteVals (word4 x)).toArray := by
  have : (x : Int) / 16777216 = ((x / 16777216 % 256 : Nat) : Int) := by omega
  rw [this]
  simp [byteVals, word4]
set_option maxHeartbeats 4000000 in
theorem iText (T : TypeId) (g : Nat) (L : List Nat) (w : World) (hW : Words .u32 T [] w g L) (hl : L.length = 16) (hF : Fit L) (hg : g < w.heap.size) :
    Calls Tryd.prog 109 #[.pointer (some ⟨g, 0, none⟩)] w (StrPost w (wBytes L)) := by
  have hmk : (Instr.makeSlice 22 (.int .i64 64) (.int .i64 64)).run Tryd.prog w = .ok (.slice (some ⟨w.heap.size, 0, none⟩) 64 64) (w.alloc (.cells (byteVals (List.replicate 64 0)).toArray 5)) := run_make8 64 (by omega) w
  have HL := hide (show (wBytes L).length = 64 by rw [length_wBytes, hl])
  have HW := hide hW
  have Hl := hide hl
  clear hW hl
  go_enter Tryd.func109, Tryd.ntmps109
  go_wp2
  clear hmk
  go_loopw [4, 6, 9] (fun a _ i wr => ∃ j : Nat, j ≤ 16 ∧ a = .int .i64 ((4 * j : Nat) : Int) ∧ i = .int .i64 j ∧ Hid (Holds8 5 wr w.heap.size (rowOf (wBytes L) (4 * j))) ∧ Hid (Below w.heap.size w wr) ∧ w.heap.size < wr.heap.size)
    (fun _ _ i _ => 16 - (intOf i).toNat)
  case atStart =>
    refine ⟨0, Nat.zero_le _, rfl, rfl, ?_, (Below.refl _ _).alloc (Nat.le_refl _) _, by simp⟩
    show Holds8 _ _ _ _
    rw [Nat.mul_zero, rowOf_zero, HL.out]
    exact Holds8.new _ _ _
  case round =>
    obtain ⟨j, hj, rfl, rfl, HR, HB, hsz⟩ := hrel
    by_cases hlt : j < 16
    · have c1 := (HW.out.below HB.out hg).cell j (by rw [Hl.out]; exact hlt)
      have bx := hF.wd j
      have C0 := hide (wBytes_at L j (by rw [Hl.out]; exact hlt))
      generalize wd L j = x at *
      have C1 := hide (show #[Value.int .u8 ((x : Int) % 256), .int .u8 ((x : Int) / 256 % 256), .int .u8 ((x : Int) / 65536 % 256), .int .u8 ((x : Int) / 16777216)] = (byteVals (((wBytes L).drop (4 * j)).take 4)).toArray by rw [C0.out]; exact word4_arr x bx)
      have C2 := hide (show (((wBytes L).drop (4 * j)).take 4).length = 4 by rw [C0.out]; rfl)
      have C3 := hide (show (rowOf (wBytes L) (4 * j)).length = 64 by rw [length_rowOf _ _ (by rw [HL.out]; omega), HL.out])
      have C4 := hide (rowOf_step (wBytes L) (4 * j) 4 (by rw [HL.out]; omega))
      go_wp2_with (go_at_call 104; go_loud (refine (put_newI w.heap.size 64 (4 * j) 4 _ (rowOf (wBytes L) (4 * j)) (((wBytes L).drop (4 * j)).take 4) _ wr HR.out hsz (by omega) C1.out C3.out C2.out (by omega) (by omega) (by omega)).mono ?_); rintro e w' ⟨rfl, hrow', hbel', hsz'⟩)
      go_roundw
      case rel => exact ⟨j + 1, by omega, by go_num, by go_num, by rw [Nat.mul_add, ← C4.out]; exact hrow', HB.out.trans hbel', by omega⟩
      case measure => simp [intOf]; omega
    · have e4 : j = 16 := by omega
      have hcv := run_convTake w.heap.size 64 64 _ (wBytes L) wr HR.out HL.out (by rw [e4, show 4 * 16 = (wBytes L).length from HL.out.symm, rowOf_all, ← HL.out, List.take_length])
      go_wp2
      go_ret
      exact ⟨rfl, HB.out⟩
end Go.Proofs.YtakjjfbocokpaaaDoor

/-
  A slice of ints that the call itself owns: appended to, and read as words.
-/
namespace Go.Proofs.YtakjjfbocokpaaaDoor
open Go.ChangeShapes Go.WideShapes Go.ChangeAt Go.RowKit

theorem infoI : (Tryd.prog.info? 3).map (fun i => (i.zero, i.size, i.bytes)) = some (some (.int .i64 0), 1, 8) := by kernel_rfl
theorem wordVals_one (k : IntKind) (L : List Nat) : ∀ v ∈ wordVals k L, v.oneCell' = true := by
  intro v hv
  simp [wordVals] at hv
  obtain ⟨c, _, rfl⟩ := hv
  rfl
theorem wordVals_append (k : IntKind) (L M : List Nat) : wordVals k L ++ wordVals k M = wordVals k (L ++ M) := by simp [wordVals]
theorem wordVals_some (k : IntKind) (L : List Nat) (j : Nat) (v : Value) (h : (wordVals k L)[j]? = some v) : ∃ _ : j < L.length, v = .int k (wd L j : Nat) := by
  have hj : j < L.length := by have := (List.getElem?_eq_some_iff.1 h).1; simpa [wordVals] using this
  refine ⟨hj, ?_⟩
  have : (wordVals k L)[j]? = some (.int k (wd L j : Nat)) := by simp [wordVals, wd, hj]
  rw [this] at h
  exact (Option.some.inj h).symm

def OwnsW (B : Nat) (w : World) (v : Value) (L : List Nat) : Prop := w.ownsRow B 3 1 v L.length (wordVals .i64 L)
theorem OwnsW.lit (B : Nat) (w : World) (L : List Nat) (hB : B ≤ w.heap.size) (hl : L.length ≤ maxLen) : OwnsW B (w.alloc (.cells (wordVals .i64 L).toArray 3)) (.slice (some ⟨w.heap.size, 0, none⟩) L.length L.length) L := by
  have := World.ownsRow_lit (base := B) (e := 3) (size := 1) w (wordVals .i64 L).toArray L.length hB hl (by simp [length_wordVals])
  simpa [OwnsW] using this
/-- What is owned and not empty is a block of words. -/
theorem OwnsW.words {B : Nat} {w : World} {v : Value} {L : List Nat} (h : OwnsW B w v L) (hp : 0 < L.length) : ∃ g cap tl, v = .slice (some ⟨g, 0, none⟩) L.length cap ∧ B ≤ g ∧ g < w.heap.size ∧ Words .i64 3 tl w g L := by
  obtain ⟨hl, ⟨rfl, h0⟩ | ⟨g, cap, cur, rfl, hg, hh, hn, hc, hs, ht⟩⟩ := h
  · omega
  · refine ⟨g, cap, cur.toList.drop L.length, rfl, hg, ?_, ?_⟩
    · exact (Array.getElem?_eq_some_iff.1 hh).1
    · unfold Words
      rw [Nat.mul_one] at ht
      rw [← ht, List.take_append_drop]
      exact hh

theorem wp_appendW {o : Oper} {a : Act} {K : Act → World → Prop} {Q : Exit → Act → World → Prop} (s x : Operand)
    (ho : o.op = .call { callee := .builtin .append, args := #[s, x], argTypes := #[77, 77] })
    (B : Nat) (w0 wr : World) (ad : Addr) (v : Value) (l cs : List Nat) (m c : Nat) (hs : a.eval s = v) (hx : a.eval x = .slice (some ad) m c)
    (hown : OwnsW B wr v l) (hbel : Below B w0 wr) (hB : B ≤ wr.heap.size)
    (hc : ∀ j, j < cs.length → wr.cell? (ad.add j) = some (.int .i64 (wd cs j : Nat))) (hm : cs.length = m) (hlen : l.length + m ≤ 1099511627776)
    (h : ∀ v' w', Hid (OwnsW B w' v' (l ++ cs)) → Hid (Below B w0 w') → wr.heap.size ≤ w'.heap.size → K (a.put o.dst v') w') :
    o.wp Tryd.prog a wr K Q := by
  obtain ⟨i0, hi, hz0, hz1, hz2⟩ := info_parts infoI
  refine wp_append_own _ s x 77 ho B 3 i0 (.int .i64 0) 1 8 Tryd.underlying77 hi hz0 hz1 hz2 rfl (by decide) v l.length (wordVals .i64 l) hs hown
    ad m c (wordVals .i64 cs) hx (by rw [length_wordVals, hm]; omega) ?_ (wordVals_one _ cs) (by unfold maxLen; omega) (by omega) hB ?_
  · intro j u hj
    obtain ⟨hj', rfl⟩ := wordVals_some _ cs j u hj
    exact hc j hj'
  · intro v' w' h1 h2 _
    refine h v' w' ?_ ?_ h2.size
    · show World.ownsRow _ _ _ _ _ _ _
      rw [List.length_append, hm]
      rwa [wordVals_append] at h1
    · exact Below.grown hbel h2 hB (fun k hk => (World.ownsRow.lt hown k hk).1)

theorem Words.new (T : TypeId) (k : IntKind) (w : World) (L : List Nat) : Words k T [] (w.alloc (.cells (wordVals k L).toArray T)) w.heap.size L := by
  unfold Words; rw [List.append_nil]; exact Go.Deep.blk_alloc_new w _
/-- what is appended lies in a new block -/
theorem appendW {ops : Array Oper} {rest : List Oper} {o : Oper} {a : Act} {Q : Exit → Act → World → Prop} (hgd : o.guard = none) (s x : Operand)
    (ho : o.op = .call { callee := .builtin .append, args := #[s, x], argTypes := #[77, 77] })
    (B : Nat) (w0 wr : World) (v : Value) (l cs : List Nat) (m : Nat) (vs : Array Value) (hs : a.eval s = v) (hx : a.eval x = .slice (some ⟨wr.heap.size, 0, none⟩) m m)
    (hown : Hid (OwnsW B wr v l)) (hbel : Hid (Below B w0 wr)) (hB : B ≤ wr.heap.size)
    (hv : vs = (wordVals .i64 cs).toArray) (hm : cs.length = m) (hlen : l.length + m ≤ 1099511627776)
    (h : ∀ v' w', Hid (OwnsW B w' v' (l ++ cs)) → Hid (Below B w0 w') → wr.heap.size < w'.heap.size → wpList Tryd.prog ops Q rest (a.put o.dst v') w') :
    wpList Tryd.prog ops Q (o :: rest) a (wr.alloc (.cells vs 3)) := by
  subst hv
  refine wpList_plain hgd fun K hK => ?_
  refine wp_appendW s x ho B w0 _ ⟨wr.heap.size, 0, none⟩ v l cs m m hs hx (World.ownsRow.alloc (h := hown.out) (o := .cells (wordVals .i64 cs).toArray 3)) (hbel.out.alloc hB _) (by rw [Go.Deep.nblk_alloc]; omega) (fun j hj => by rw [addr_add0]; exact (Words.new 3 .i64 wr cs).cell j hj) hm hlen fun v' w' h1 h2 h3 => hK _ _ (h v' w' h1 h2 ?_)
  rw [Go.Deep.nblk_alloc] at h3
  omega
/-- what is appended, to a new slice without a cell, are the words of block g -/
theorem appendCopy {ops : Array Oper} {rest : List Oper} {o : Oper} {a : Act} {Q : Exit → Act → World → Prop} (hgd : o.guard = none) (s x : Operand)
    (ho : o.op = .call { callee := .builtin .append, args := #[s, x], argTypes := #[77, 77] })
    (wr : World) (cs : List Nat) (m c g : Nat) (tl : List Value) (hs : a.eval s = .slice (some ⟨wr.heap.size, 0, none⟩) 0 0) (hx : a.eval x = .slice (some ⟨g, 0, none⟩) m c)
    (hw : Hid (Words .i64 3 tl wr g cs)) (hg : g < wr.heap.size) (hm : cs.length = m) (hlen : m ≤ 1099511627776)
    (h : ∀ v' w', Hid (OwnsW wr.heap.size w' v' cs) → Hid (Below wr.heap.size wr w') → wr.heap.size < w'.heap.size → wpList Tryd.prog ops Q rest (a.put o.dst v') w') :
    wpList Tryd.prog ops Q (o :: rest) a (wr.alloc (.cells #[] 3)) := by
  refine wpList_plain hgd fun K hK => ?_
  refine wp_appendW s x ho wr.heap.size wr _ ⟨g, 0, none⟩ _ [] cs m c hs hx (OwnsW.lit _ wr [] (Nat.le_refl _) (by unfold maxLen; simp)) ((Below.refl _ _).alloc (Nat.le_refl _) _) (by rw [Go.Deep.nblk_alloc]; omega) (fun j hj => by rw [addr_add0]; exact (hw.out.alloc hg _).cell j hj) hm (by simp; omega) fun v' w' h1 h2 h3 => hK _ _ (h v' w' h1 h2 ?_)
  rw [Go.Deep.nblk_alloc] at h3
  omega
end Go.Proofs.YtakjjfbocokpaaaDoor
