/-
  Texts of this proof, put together: MathU, FilM, ChaT, OwnI, StrK.
-/
import Derived.Test.YtakjjfbocokpaaaDoorPackAI
import Derived.Test.YtakjjfbocokpaaaDoorPackAG
import Derived.Test.YtakjjfbocokpaaaDoorPackAE
import Derived.Test.YtakjjfbocokpaaaDoorPackAC
import Derived.WalkKit
import Derived.ProofKit

/-
  What Wrap and Unwrap answer, on lists of bytes: nothing here speaks of the program.
-/
namespace Go.Proofs.YtakjjfbocokpaaaDoor
open Go.RowKit

def crcI (l : List UInt8) : Int := 4294967295 - (crcRun 4294967295 l : Int)
theorem crcI_bd (l : List UInt8) : 0 ≤ crcI l ∧ crcI l < 4294967296 := by
  have := crcRun_lt l 4294967295 (by omega)
  unfold crcI
  omega
def wrapOk (m : List UInt8) (n : Int) (k : List UInt8) : Prop := k.length = 32 ∧ m.length = 32 ∧ 0 ≤ n ∧ n ≤ 562949953421311
instance (m : List UInt8) (n : Int) (k : List UInt8) : Decidable (wrapOk m n k) := inferInstanceAs (Decidable (_ ∧ _))
/-- the stream that hides a key, and brings it back -/
def hideV (m : List UInt8) (n : Int) (k : List UInt8) : List UInt8 := streamV m 0 (nonceL 1 n) k
def wrapV (m : List UInt8) (n : Int) (k : List UInt8) : List UInt8 := if wrapOk m n k then fixedV (crcI (hideV m n k)) 4 ++ hideV m n k else []
theorem nonceL_bad (n : Int) (h : ¬ (0 ≤ n ∧ n ≤ 562949953421311)) : nonceL 1 n = [] := by unfold nonceL; rw [if_neg (by omega)]
theorem strOk_of_wrap {m : List UInt8} {n : Int} {k : List UInt8} (hm : m.length = 32) (hn : 0 ≤ n ∧ n ≤ 562949953421311) (hk : k.length = 32) : StrOk m 0 (nonceL 1 n) k := by
  have h := length_nonceL 1 n ⟨by omega, by omega, hn.1, hn.2⟩
  refine ⟨⟨hm, h, by omega, by omega⟩, ⟨hm, h, ?_, ?_⟩⟩ <;> rw [hk] <;> simp
theorem length_hideV {m : List UInt8} {n : Int} {k : List UInt8} (h : wrapOk m n k) : (hideV m n k).length = 32 := by
  unfold hideV
  rw [streamV_ok (strOk_of_wrap h.2.1 h.2.2 h.1), length_strL, h.1]
theorem hideV_bad {m : List UInt8} {n : Int} {k : List UInt8} (hk : k.length = 32) (h : ¬ wrapOk m n k) : hideV m n k = [] := by
  unfold hideV
  refine streamV_no fun hs => h ⟨hk, hs.1.1, ?_⟩
  refine Decidable.byContradiction fun hn => ?_
  have h2 := hs.1.2.1
  rw [nonceL_bad n hn] at h2
  simp at h2
theorem fixedV4 (c : Int) (h : 0 ≤ c ∧ c < 4294967296) : (fixedV c 4).length = 4 := by
  unfold fixedV
  rw [if_pos ⟨by omega, by omega, h.1⟩]
  unfold fixedL
  rw [if_pos (by rw [show (4 : Int).toNat = 4 from rfl]; exact Nat.div_eq_of_lt (by omega)), length_lowB]
  rfl
theorem length_wrapV {m : List UInt8} {n : Int} {k : List UInt8} (h : wrapOk m n k) : (wrapV m n k).length = 36 := by
  unfold wrapV
  rw [if_pos h, List.length_append, fixedV4 _ (crcI_bd _), length_hideV h]
def unOk (m : List UInt8) (n : Int) (s : List UInt8) : Prop := s.length = 36 ∧ wrapV m n (hideV m n (s.drop 4)) = s
instance (m : List UInt8) (n : Int) (s : List UInt8) : Decidable (unOk m n s) := inferInstanceAs (Decidable (_ ∧ _))
def unKey (m : List UInt8) (n : Int) (s : List UInt8) : List UInt8 := if unOk m n s then hideV m n (s.drop 4) else []
def unB (m : List UInt8) (n : Int) (s : List UInt8) : Bool := decide (unOk m n s)
theorem unKey_yes {m : List UInt8} {n : Int} {s : List UInt8} (h : unOk m n s) : unKey m n s = hideV m n (s.drop 4) ∧ unB m n s = true := ⟨by unfold unKey; rw [if_pos h], decide_eq_true h⟩
theorem unKey_no {m : List UInt8} {n : Int} {s : List UInt8} (h : ¬ unOk m n s) : unKey m n s = [] ∧ unB m n s = false := ⟨by unfold unKey; rw [if_neg h], decide_eq_false h⟩
theorem unOk_ok {m : List UInt8} {n : Int} {s : List UInt8} (h : unOk m n s) : m.length = 32 ∧ 0 ≤ n ∧ n ≤ 562949953421311 := by
  obtain ⟨h1, h2⟩ := h
  by_cases hw : wrapOk m n (hideV m n (s.drop 4))
  · exact hw.2
  · unfold wrapV at h2
    rw [if_neg hw] at h2
    rw [← h2] at h1
    simp at h1
end Go.Proofs.YtakjjfbocokpaaaDoor

/-
  What the functions of chapter 13 answer, on lists of bytes: nothing here speaks of the program.
-/
namespace Go.Proofs.YtakjjfbocokpaaaDoor
open Go.RowKit

def fOk (k : List UInt8) (n : Int) : Prop := k.length = 32 ∧ 0 ≤ n ∧ n ≤ 562949953421311
instance (k : List UInt8) (n : Int) : Decidable (fOk k n) := inferInstanceAs (Decidable (_ ∧ _))
/-- the key of a file -/
def fkeyV (k : List UInt8) (n : Int) : List UInt8 := (blockV k 0 (nonceL 4 n)).take 32
theorem nonceL_no {q n : Int} (h : ¬ (0 ≤ n ∧ n ≤ 562949953421311)) : nonceL q n = [] := by unfold nonceL; rw [if_neg (by omega)]
theorem fkey_ok {k : List UInt8} {n : Int} : BlockOk k 0 (nonceL 4 n) ↔ fOk k n := by
  constructor
  · rintro ⟨h1, h2, _⟩
    refine ⟨h1, ?_⟩
    refine Decidable.byContradiction fun hn => ?_
    rw [nonceL_no hn] at h2
    simp at h2
  · rintro ⟨h1, h2, h3⟩
    exact ⟨h1, length_nonceL 4 n ⟨by omega, by omega, h2, h3⟩, by omega, by omega⟩
theorem fkey_len {k : List UInt8} {n : Int} (h : fOk k n) : (fkeyV k n).length = 32 := by
  unfold fkeyV blockV
  rw [if_pos (fkey_ok.2 h), List.length_take, length_chaB]
  rfl
theorem fkey_no {k : List UInt8} {n : Int} (h : ¬ fOk k n) : fkeyV k n = [] := by
  unfold fkeyV blockV
  rw [if_neg fun q => h (fkey_ok.1 q)]
  rfl
/-- the stream over a file's text -/
def fstr (k : List UInt8) (n : Int) (t : List UInt8) : List UInt8 := streamV (fkeyV k n) 1 (nonceL 5 n) t
theorem fstr_ok {k : List UInt8} {n : Int} {t : List UInt8} (h : fOk k n) (ht : t.length ≤ 1048576) : StrOk (fkeyV k n) 1 (nonceL 5 n) t := by
  have h1 := fkey_len h
  have h2 := length_nonceL 5 n ⟨by omega, by omega, h.2.1, h.2.2⟩
  exact ⟨⟨h1, h2, by omega, by omega⟩, ⟨h1, h2, by omega, by omega⟩⟩
theorem fstr_len {k : List UInt8} {n : Int} {t : List UInt8} (h : fOk k n) (ht : t.length ≤ 1048576) : (fstr k n t).length = t.length := by
  unfold fstr
  rw [streamV_ok (fstr_ok h ht), length_strL]
theorem fstr_twice {k : List UInt8} {n : Int} {t : List UInt8} (h : fOk k n) (ht : t.length ≤ 1048576) : fstr k n (fstr k n t) = t := by
  have h1 := fstr_ok h ht
  unfold fstr
  rw [streamV_ok h1]
  exact streamV_twice h1
/-- the four bytes ahead -/
def sumF (s : List UInt8) : List UInt8 := fixedV (crcI s) 4
theorem sumF_len (s : List UInt8) : (sumF s).length = 4 := fixedV4 _ (crcI_bd s)
def fileV (k : List UInt8) (n : Int) (t : List UInt8) : List UInt8 := if fOk k n ∧ t.length ≤ 2000 then sumF (fstr k n t) ++ fstr k n t else []
theorem fileV_yes {k : List UInt8} {n : Int} {t : List UInt8} (h : fOk k n) (ht : t.length ≤ 2000) : fileV k n t = sumF (fstr k n t) ++ fstr k n t := if_pos ⟨h, ht⟩
theorem fileV_no {k : List UInt8} {n : Int} {t : List UInt8} (h : ¬ (fOk k n ∧ t.length ≤ 2000)) : fileV k n t = [] := if_neg h
theorem fileV_len {k : List UInt8} {n : Int} {t : List UInt8} (h : fOk k n) (ht : t.length ≤ 2000) : (fileV k n t).length = t.length + 4 := by
  rw [fileV_yes h ht, List.length_append, sumF_len, fstr_len h (by omega)]
  omega
theorem fileV_drop {k : List UInt8} {n : Int} {t : List UInt8} (h : fOk k n) (ht : t.length ≤ 2000) : (fileV k n t).drop 4 = fstr k n t := by
  rw [fileV_yes h ht, List.drop_append_of_le_length (by rw [sumF_len]; exact Nat.le_refl _), List.drop_of_length_le (by rw [sumF_len]; exact Nat.le_refl _), List.nil_append]
/-- a string that opens -/
def openOk (k : List UInt8) (n : Int) (s : List UInt8) : Prop := fOk k n ∧ 4 ≤ s.length ∧ fileV k n (fstr k n (s.drop 4)) = s
instance (k : List UInt8) (n : Int) (s : List UInt8) : Decidable (openOk k n s) := inferInstanceAs (Decidable (_ ∧ _))
def openV (k : List UInt8) (n : Int) (s : List UInt8) : List UInt8 := if openOk k n s then fstr k n (s.drop 4) else []
def openQ (k : List UInt8) (n : Int) (s : List UInt8) : Bool := decide (openOk k n s)
theorem open_yes {k : List UInt8} {n : Int} {s : List UInt8} (h : openOk k n s) : openV k n s = fstr k n (s.drop 4) ∧ openQ k n s = true := ⟨if_pos h, decide_eq_true h⟩
theorem open_no {k : List UInt8} {n : Int} {s : List UInt8} (h : ¬ openOk k n s) : openV k n s = [] ∧ openQ k n s = false := ⟨if_neg h, decide_eq_false h⟩
/-- what opens is its sum and the rest -/
theorem open_iff {k : List UInt8} {n : Int} {s : List UInt8} (hs : s.length ≤ 1048576) : openOk k n s ↔ fOk k n ∧ 4 ≤ s.length ∧ s.length ≤ 2004 ∧ s = sumF (s.drop 4) ++ s.drop 4 := by
  have hd : (s.drop 4).length ≤ 1048576 := by rw [List.length_drop]; omega
  constructor
  · rintro ⟨h1, h2, h3⟩
    have hl := fstr_len h1 hd
    by_cases ht : (fstr k n (s.drop 4)).length ≤ 2000
    · rw [fileV_yes h1 ht, fstr_twice h1 hd] at h3
      refine ⟨h1, h2, ?_, h3.symm⟩
      rw [hl, List.length_drop] at ht
      omega
    · rw [fileV_no (fun q => ht q.2)] at h3
      rw [← h3] at h2
      simp at h2
  · rintro ⟨h1, h2, h3, h4⟩
    have hl := fstr_len h1 hd
    refine ⟨h1, h2, ?_⟩
    rw [fileV_yes h1 (by rw [hl, List.length_drop]; omega), fstr_twice h1 hd]
    exact h4.symm
theorem open_file {k : List UInt8} {n : Int} {t : List UInt8} (h : fOk k n) (ht : t.length ≤ 2000) : openV k n (fileV k n t) = t ∧ openQ k n (fileV k n t) = true := by
  have hd := fileV_drop h ht
  have hb : openOk k n (fileV k n t) := ⟨h, by rw [fileV_len h ht]; omega, by rw [hd, fstr_twice h (by omega)]⟩
  obtain ⟨h1, h2⟩ := open_yes hb
  exact ⟨by rw [h1, hd, fstr_twice h (by omega)], h2⟩
theorem open_show {k : List UInt8} {n : Int} {s : List UInt8} (h : openQ k n s = true) : fileV k n (openV k n s) = s := by
  have hb : openOk k n s := of_decide_eq_true h
  rw [(open_yes hb).1]
  exact hb.2.2
theorem lowB_mod : ∀ (k : Nat) {a b : Nat}, lowB a k = lowB b k → a % 256 ^ k = b % 256 ^ k
  | 0, a, b, _ => by rw [Nat.pow_zero, Nat.mod_one, Nat.mod_one]
  | k + 1, a, b, h => by
    injection h with h1 h2
    have h3 := congrArg UInt8.toNat h1
    rw [UInt8.toNat_ofNat', UInt8.toNat_ofNat'] at h3
    have h4 : a / 256 ^ k % 256 = b / 256 ^ k % 256 := by omega
    rw [Nat.mod_pow_succ, Nat.mod_pow_succ, lowB_mod k h2, h4]
theorem lowB_inj (k : Nat) {a b : Nat} (ha : a < 256 ^ k) (hb : b < 256 ^ k) (h : lowB a k = lowB b k) : a = b := by
  have := lowB_mod k h
  rwa [Nat.mod_eq_of_lt ha, Nat.mod_eq_of_lt hb] at this
theorem sumF_inj {s t : List UInt8} (h : sumF s = sumF t) : crcRun 4294967295 s = crcRun 4294967295 t := by
  have hs := crcI_bd s
  have ht := crcI_bd t
  unfold sumF fixedV at h
  rw [if_pos ⟨by omega, by omega, hs.1⟩, if_pos ⟨by omega, by omega, ht.1⟩] at h
  unfold fixedL at h
  rw [show (4 : Int).toNat = 4 from rfl] at h
  rw [if_pos (Nat.div_eq_of_lt (by omega)), if_pos (Nat.div_eq_of_lt (by omega))] at h
  have := lowB_inj 4 (by omega) (by omega) h
  have h1 := crcRun_lt s 4294967295 (by omega)
  have h2 := crcRun_lt t 4294967295 (by omega)
  unfold crcI at hs ht this
  omega
/-- of two strings that differ in one byte one opens at most -/
theorem open_bent {k : List UInt8} {n : Int} {x y : List UInt8} {a b : UInt8} (hl : (x ++ a :: y).length ≤ 1048576) (ha : openQ k n (x ++ a :: y) = true) (hb : openQ k n (x ++ b :: y) = true) : a = b := by
  have hl' : (x ++ b :: y).length ≤ 1048576 := by simpa using hl
  obtain ⟨_, _, _, ea⟩ := (open_iff hl).1 (of_decide_eq_true ha)
  obtain ⟨_, _, _, eb⟩ := (open_iff hl').1 (of_decide_eq_true hb)
  by_cases h4 : x.length < 4
  · have e1 : (x ++ a :: y).drop 4 = (x ++ b :: y).drop 4 := by
      rw [List.drop_append, List.drop_append]
      congr 1
      obtain ⟨m, hm⟩ : ∃ m, 4 - x.length = m + 1 := ⟨3 - x.length, by omega⟩
      rw [hm]
      rfl
    rw [e1] at ea
    have := ea.trans eb.symm
    have h := List.append_cancel_left this
    injection h
  · have e1 : ∀ z : UInt8, (x ++ z :: y).drop 4 = x.drop 4 ++ z :: y := fun z => List.drop_append_of_le_length (by omega)
    have e2 : ∀ z : UInt8, (x ++ z :: y).take 4 = x.take 4 := fun z => List.take_append_of_le_length (by omega)
    have t1 : x.take 4 = sumF (x.drop 4 ++ a :: y) := by
      have := congrArg (List.take 4) ea
      rw [e2, e1, List.take_append_of_le_length (by rw [sumF_len]; exact Nat.le_refl _), List.take_of_length_le (l := sumF _) (by rw [sumF_len]; exact Nat.le_refl _)] at this
      exact this
    have t2 : x.take 4 = sumF (x.drop 4 ++ b :: y) := by
      have := congrArg (List.take 4) eb
      rw [e2, e1, List.take_append_of_le_length (by rw [sumF_len]; exact Nat.le_refl _), List.take_of_length_le (l := sumF _) (by rw [sumF_len]; exact Nat.le_refl _)] at this
      exact this
    exact crcRun_bent (by omega) _ _ _ _ (sumF_inj (t1.symm.trans t2))
end Go.Proofs.YtakjjfbocokpaaaDoor

/-
  Contract of (*impl.chaWords).text.
-/
namespace Go.Proofs.YtakjjfbocokpaaaDoor
open Go.ChangeShapes Go.WideShapes Go.ChangeAt Go.RowKit

set_option maxRecDepth 100000

theorem put_newI (g n p m : Nat) (q : Int) (L cs : List UInt8) (vs : Array Value) (w : World)
    (hg : Holds8 5 w g L) (hlt : g < w.heap.size) (hq : (p : Int) = q) (hv : vs = (byteVals cs).toArray) (hL : L.length = n) (hm : cs.length = m) (hfit : p + m ≤ n) (hpos : 0 < m) (hn : n ≤ 1099511627776) :
    Calls Tryd.prog 104 #[.slice (some ⟨g, 0, none⟩) n n, .int .i64 q, .slice (some ⟨w.heap.size, 0, none⟩) m m] (w.alloc (.cells vs 5)) (PutNew 5 w g p m L cs) := by
  subst hq
  exact put_new g n p m L cs vs w hg hlt hv hL hm hfit hpos hn
theorem word4_arr (x : Nat) (h : x < 4294967296) : #[Value.int .u8 ((x : Int) % 256), .int .u8 ((x : Int) / 256 % 256), .int .u8 ((x : Int) / 65536 % 256), .int .u8 ((x : Int) / 16777216)] = (byteVals (word4 x)).toArray := by
  have : (x : Int) / 16777216 = ((x / 16777216 % 256 : Nat) : Int) := by omega
  rw [this]
  simp [byteVals, word4]
set_option maxHeartbeats 4000000 in
theorem iText (T : TypeId) (g : Nat) (L : List Nat) (w : World) (hW : Words .u32 T [] w g L) (hl : L.length = 16) (hF : Fit L) (hg : g < w.heap.size) :
    Calls Tryd.prog 109 #[.pointer (some ⟨g, 0, none⟩)] w (StrPost w (wBytes L)) := by
  have hmk : (Instr.makeSlice 22 (.int .i64 64) (.int .i64 64)).run Tryd.prog w = .ok (.slice (some ⟨w.heap.size, 0, none⟩) 64 64) (w.alloc (.cells (byteVals (List.replicate 64 0)).toArray 5)) := run_make8 64 (by omega) w
  have HL := hide (show (wBytes L).length = 64 by rw [length_wBytes, hl])
  have HW := hide hW
  have Hl := hide hl
  clear hW hl
  go_enter Tryd.func109, Tryd.ntmps109
  go_wp2
  clear hmk
  go_loopw [4, 6, 9] (fun a _ i wr => ∃ j : Nat, j ≤ 16 ∧ a = .int .i64 ((4 * j : Nat) : Int) ∧ i = .int .i64 j ∧ Hid (Holds8 5 wr w.heap.size (rowOf (wBytes L) (4 * j))) ∧ Hid (Below w.heap.size w wr) ∧ w.heap.size < wr.heap.size)
    (fun _ _ i _ => 16 - (intOf i).toNat)
  case atStart =>
    refine ⟨0, Nat.zero_le _, rfl, rfl, ?_, (Below.refl _ _).alloc (Nat.le_refl _) _, by simp⟩
    show Holds8 _ _ _ _
    rw [Nat.mul_zero, rowOf_zero, HL.out]
    exact Holds8.new _ _ _
  case round =>
    obtain ⟨j, hj, rfl, rfl, HR, HB, hsz⟩ := hrel
    by_cases hlt : j < 16
    · have c1 := (HW.out.below HB.out hg).cell j (by rw [Hl.out]; exact hlt)
      have bx := hF.wd j
      have C0 := hide (wBytes_at L j (by rw [Hl.out]; exact hlt))
      generalize wd L j = x at *
      have C1 := hide (show #[Value.int .u8 ((x : Int) % 256), .int .u8 ((x : Int) / 256 % 256), .int .u8 ((x : Int) / 65536 % 256), .int .u8 ((x : Int) / 16777216)] = (byteVals (((wBytes L).drop (4 * j)).take 4)).toArray by rw [C0.out]; exact word4_arr x bx)
      have C2 := hide (show (((wBytes L).drop (4 * j)).take 4).length = 4 by rw [C0.out]; rfl)
      have C3 := hide (show (rowOf (wBytes L) (4 * j)).length = 64 by rw [length_rowOf _ _ (by rw [HL.out]; omega), HL.out])
      have C4 := hide (rowOf_step (wBytes L) (4 * j) 4 (by rw [HL.out]; omega))
      go_wp2_with (go_at_call 104; go_loud (refine (put_newI w.heap.size 64 (4 * j) 4 _ (rowOf (wBytes L) (4 * j)) (((wBytes L).drop (4 * j)).take 4) _ wr HR.out hsz (by omega) C1.out C3.out C2.out (by omega) (by omega) (by omega)).mono ?_); rintro e w' ⟨rfl, hrow', hbel', hsz'⟩)
      go_roundw
      case rel => exact ⟨j + 1, by omega, by go_num, by go_num, by rw [Nat.mul_add, ← C4.out]; exact hrow', HB.out.trans hbel', by omega⟩
      case measure => simp [intOf]; omega
    · have e4 : j = 16 := by omega
      have hcv := run_convTake w.heap.size 64 64 _ (wBytes L) wr HR.out HL.out (by rw [e4, show 4 * 16 = (wBytes L).length from HL.out.symm, rowOf_all, ← HL.out, List.take_length])
      go_wp2
      go_ret
      exact ⟨rfl, HB.out⟩
end Go.Proofs.YtakjjfbocokpaaaDoor

/-
  A slice of ints that the call itself owns: appended to, and read as words.
-/
namespace Go.Proofs.YtakjjfbocokpaaaDoor
open Go.ChangeShapes Go.WideShapes Go.ChangeAt Go.RowKit

theorem infoI : (Tryd.prog.info? 3).map (fun i => (i.zero, i.size, i.bytes)) = some (some (.int .i64 0), 1, 8) := by kernel_rfl
theorem wordVals_one (k : IntKind) (L : List Nat) : ∀ v ∈ wordVals k L, v.oneCell' = true := by
  intro v hv
  simp [wordVals] at hv
  obtain ⟨c, _, rfl⟩ := hv
  rfl
theorem wordVals_append (k : IntKind) (L M : List Nat) : wordVals k L ++ wordVals k M = wordVals k (L ++ M) := by simp [wordVals]
theorem wordVals_some (k : IntKind) (L : List Nat) (j : Nat) (v : Value) (h : (wordVals k L)[j]? = some v) : ∃ _ : j < L.length, v = .int k (wd L j : Nat) := by
  have hj : j < L.length := by have := (List.getElem?_eq_some_iff.1 h).1; simpa [wordVals] using this
  refine ⟨hj, ?_⟩
  have : (wordVals k L)[j]? = some (.int k (wd L j : Nat)) := by simp [wordVals, wd, hj]
  rw [this] at h
  exact (Option.some.inj h).symm

def OwnsW (B : Nat) (w : World) (v : Value) (L : List Nat) : Prop := w.ownsRow B 3 1 v L.length (wordVals .i64 L)
theorem OwnsW.lit (B : Nat) (w : World) (L : List Nat) (hB : B ≤ w.heap.size) (hl : L.length ≤ maxLen) : OwnsW B (w.alloc (.cells (wordVals .i64 L).toArray 3)) (.slice (some ⟨w.heap.size, 0, none⟩) L.length L.length) L := by
  have := World.ownsRow_lit (base := B) (e := 3) (size := 1) w (wordVals .i64 L).toArray L.length hB hl (by simp [length_wordVals])
  simpa [OwnsW] using this
/-- What is owned and not empty is a block of words. -/
theorem OwnsW.words {B : Nat} {w : World} {v : Value} {L : List Nat} (h : OwnsW B w v L) (hp : 0 < L.length) : ∃ g cap tl, v = .slice (some ⟨g, 0, none⟩) L.length cap ∧ B ≤ g ∧ g < w.heap.size ∧ Words .i64 3 tl w g L := by
  obtain ⟨hl, ⟨rfl, h0⟩ | ⟨g, cap, cur, rfl, hg, hh, hn, hc, hs, ht⟩⟩ := h
  · omega
  · refine ⟨g, cap, cur.toList.drop L.length, rfl, hg, ?_, ?_⟩
    · exact (Array.getElem?_eq_some_iff.1 hh).1
    · unfold Words
      rw [Nat.mul_one] at ht
      rw [← ht, List.take_append_drop]
      exact hh

theorem wp_appendW {o : Oper} {a : Act} {K : Act → World → Prop} {Q : Exit → Act → World → Prop} (s x : Operand)
    (ho : o.op = .call { callee := .builtin .append, args := #[s, x], argTypes := #[77, 77] })
    (B : Nat) (w0 wr : World) (ad : Addr) (v : Value) (l cs : List Nat) (m c : Nat) (hs : a.eval s = v) (hx : a.eval x = .slice (some ad) m c)
    (hown : OwnsW B wr v l) (hbel : Below B w0 wr) (hB : B ≤ wr.heap.size)
    (hc : ∀ j, j < cs.length → wr.cell? (ad.add j) = some (.int .i64 (wd cs j : Nat))) (hm : cs.length = m) (hlen : l.length + m ≤ 1099511627776)
    (h : ∀ v' w', Hid (OwnsW B w' v' (l ++ cs)) → Hid (Below B w0 w') → wr.heap.size ≤ w'.heap.size → K (a.put o.dst v') w') :
    o.wp Tryd.prog a wr K Q := by
  obtain ⟨i0, hi, hz0, hz1, hz2⟩ := info_parts infoI
  refine wp_append_own _ s x 77 ho B 3 i0 (.int .i64 0) 1 8 Tryd.underlying77 hi hz0 hz1 hz2 rfl (by decide) v l.length (wordVals .i64 l) hs hown
    ad m c (wordVals .i64 cs) hx (by rw [length_wordVals, hm]; omega) ?_ (wordVals_one _ cs) (by unfold maxLen; omega) (by omega) hB ?_
  · intro j u hj
    obtain ⟨hj', rfl⟩ := wordVals_some _ cs j u hj
    exact hc j hj'
  · intro v' w' h1 h2 _
    refine h v' w' ?_ ?_ h2.size
    · show World.ownsRow _ _ _ _ _ _ _
      rw [List.length_append, hm]
      rwa [wordVals_append] at h1
    · exact Below.grown hbel h2 hB (fun k hk => (World.ownsRow.lt hown k hk).1)

theorem Words.new (T : TypeId) (k : IntKind) (w : World) (L : List Nat) : Words k T [] (w.alloc (.cells (wordVals k L).toArray T)) w.heap.size L := by
  unfold Words; rw [List.append_nil]; exact Go.Deep.blk_alloc_new w _
/-- what is appended lies in a new block -/
theorem appendW {ops : Array Oper} {rest : List Oper} {o : Oper} {a : Act} {Q : Exit → Act → World → Prop} (hgd : o.guard = none) (s x : Operand)
    (ho : o.op = .call { callee := .builtin .append, args := #[s, x], argTypes := #[77, 77] })
    (B : Nat) (w0 wr : World) (v : Value) (l cs : List Nat) (m : Nat) (vs : Array Value) (hs : a.eval s = v) (hx : a.eval x = .slice (some ⟨wr.heap.size, 0, none⟩) m m)
    (hown : Hid (OwnsW B wr v l)) (hbel : Hid (Below B w0 wr)) (hB : B ≤ wr.heap.size)
    (hv : vs = (wordVals .i64 cs).toArray) (hm : cs.length = m) (hlen : l.length + m ≤ 1099511627776)
    (h : ∀ v' w', Hid (OwnsW B w' v' (l ++ cs)) → Hid (Below B w0 w') → wr.heap.size < w'.heap.size → wpList Tryd.prog ops Q rest (a.put o.dst v') w') :
    wpList Tryd.prog ops Q (o :: rest) a (wr.alloc (.cells vs 3)) := by
  subst hv
  refine wpList_plain hgd fun K hK => ?_
  refine wp_appendW s x ho B w0 _ ⟨wr.heap.size, 0, none⟩ v l cs m m hs hx (World.ownsRow.alloc (h := hown.out) (o := .cells (wordVals .i64 cs).toArray 3)) (hbel.out.alloc hB _) (by rw [Go.Deep.nblk_alloc]; omega) (fun j hj => by rw [addr_add0]; exact (Words.new 3 .i64 wr cs).cell j hj) hm hlen fun v' w' h1 h2 h3 => hK _ _ (h v' w' h1 h2 ?_)
  rw [Go.Deep.nblk_alloc] at h3
  omega
/-- what is appended, to a new slice without a cell, are the words of block g -/
theorem appendCopy {ops : Array Oper} {rest : List Oper} {o : Oper} {a : Act} {Q : Exit → Act → World → Prop} (hgd : o.guard = none) (s x : Operand)
    (ho : o.op = .call { callee := .builtin .append, args := #[s, x], argTypes := #[77, 77] })
    (wr : World) (cs : List Nat) (m c g : Nat) (tl : List Value) (hs : a.eval s = .slice (some ⟨wr.heap.size, 0, none⟩) 0 0) (hx : a.eval x = .slice (some ⟨g, 0, none⟩) m c)
    (hw : Hid (Words .i64 3 tl wr g cs)) (hg : g < wr.heap.size) (hm : cs.length = m) (hlen : m ≤ 1099511627776)
    (h : ∀ v' w', Hid (OwnsW wr.heap.size w' v' cs) → Hid (Below wr.heap.size wr w') → wr.heap.size < w'.heap.size → wpList Tryd.prog ops Q rest (a.put o.dst v') w') :
    wpList Tryd.prog ops Q (o :: rest) a (wr.alloc (.cells #[] 3)) := by
  refine wpList_plain hgd fun K hK => ?_
  refine wp_appendW s x ho wr.heap.size wr _ ⟨g, 0, none⟩ _ [] cs m c hs hx (OwnsW.lit _ wr [] (Nat.le_refl _) (by unfold maxLen; simp)) ((Below.refl _ _).alloc (Nat.le_refl _) _) (by rw [Go.Deep.nblk_alloc]; omega) (fun j hj => by rw [addr_add0]; exact (hw.out.alloc hg _).cell j hj) hm (by simp; omega) fun v' w' h1 h2 h3 => hK _ _ (h v' w' h1 h2 ?_)
  rw [Go.Deep.nblk_alloc] at h3
  omega
end Go.Proofs.YtakjjfbocokpaaaDoor

/-
  Strings as lists of bytes, in the words of the walk; l1In where its answer is known.
-/
namespace Go.Proofs.YtakjjfbocokpaaaDoor
open Go.ChangeShapes Go.WideShapes Go.ChangeAt Go.RowKit

theorem bl_of (l : List UInt8) : bl ⟨l.toArray⟩ = l := rfl
theorem size_of (l : List UInt8) : (ByteArray.mk l.toArray).size = l.length := by simp [ByteArray.size]
theorem run_cat (a b : List UInt8) (h : a.length + b.length ≤ 1048576) (W : World) : (Op.stringOp .add ⟨a.toArray⟩ ⟨b.toArray⟩).run Tryd.prog W = .ok (.string ⟨(a ++ b).toArray⟩) W := by
  rw [run_string_add_sum (P := Tryd.prog) (w := W) _ _ (by rw [size_of, size_of]; omega), ByteArray.mk_append_mk]
theorem below_of_drew' {w w' : World} (h : Below w.drew.heap.size w.drew w') : Below w.heap.size w w' := ⟨h.os, h.tape, h.output, h.size, h.block⟩
theorem ne_str {a : List UInt8} {s : ByteArray} (h : a ≠ bl s) : (a == s.toList) = false := by
  rw [beq_eq_false_iff_ne, ByteArray.toList_eq]
  exact h
theorem str_of (s : ByteArray) : (⟨(bl s).toArray⟩ : ByteArray) = s := by
  obtain ⟨⟨l⟩⟩ := s
  rfl
theorem cut_mk (l : List UInt8) (d : Nat) : (ByteArray.mk l.toArray).extract d l.length = ⟨(l.drop d).toArray⟩ := by
  have := ext_drop (ByteArray.mk l.toArray) d
  rw [size_of] at this
  exact this
theorem in_yes (x a b : Int) (w : World) (h0 : a ≤ x) (h1 : x ≤ b) :
    Calls Tryd.prog 52 #[.int .i64 x, .int .i64 a, .int .i64 b] w fun e w' => e = .returned (.bool true) ∧ w = w' :=
  (l1In_any x a b w).mono fun e w' ⟨he, hw⟩ => ⟨by rw [he, decide_eq_true h0, decide_eq_true h1]; rfl, hw⟩
theorem in_no (x a b : Int) (w : World) (h : x < a ∨ b < x) :
    Calls Tryd.prog 52 #[.int .i64 x, .int .i64 a, .int .i64 b] w fun e w' => e = .returned (.bool false) ∧ w = w' :=
  (l1In_any x a b w).mono fun e w' ⟨he, hw⟩ => ⟨by
    rw [he]
    rcases h with h | h
    · rw [decide_eq_false (by omega : ¬ a ≤ x)]; rfl
    · rw [decide_eq_false (by omega : ¬ x ≤ b), Bool.and_false], hw⟩
end Go.Proofs.YtakjjfbocokpaaaDoor
