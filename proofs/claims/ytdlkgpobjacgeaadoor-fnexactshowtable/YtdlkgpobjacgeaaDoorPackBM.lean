/-
  Texts of this proof, put together: BlmI, BlmJ.
-/
import Derived.Test.YtdlkgpobjacgeaaDoorPackAB
import Derived.Test.YtdlkgpobjacgeaaDoorPackBL
import Derived.Test.YtdlkgpobjacgeaaDoorPackAE
import Derived.Test.YtdlkgpobjacgeaaDoorPackAD
import Derived.Test.YtdlkgpobjacgeaaDoorPackAC
import Derived.Test.YtdlkgpobjacgeaaDoorPackAI
import Derived.StillTailTactics
import Derived.WalkLawsBesides

/-
  Contracts of impl.bloomSizeOk, of the closures of BloomOf and BloomMay, and of (bloomWords).text.
-/
namespace Go.Proofs.YtdlkgpobjacgeaaDoor
open Go.ChangeShapes Go.WideShapes Go.ChangeAt Go.RowKit

theorem sizeOk_any (x : Int) (w : World) : Calls Tryd.prog 63 #[.int .i64 x] w fun e w' => e = .returned (.bool (decide (1 ≤ x) && decide (x ≤ 64))) ∧ w = w' := by
  go_enter Tryd.func63, Tryd.ntmps63
  go_wp2
  all_goals go_ret
  all_goals (refine ⟨?_, rfl⟩; simp [*] <;> omega)
theorem sizeOk_yes (x : Int) (w : World) (h : 1 ≤ x ∧ x ≤ 64) : Calls Tryd.prog 63 #[.int .i64 x] w fun e w' => e = .returned (.bool true) ∧ w = w' :=
  (sizeOk_any x w).mono fun e w' ⟨he, hw⟩ => ⟨by rw [he, decide_eq_true h.1, decide_eq_true h.2]; rfl, hw⟩
theorem sizeOk_no (x : Int) (w : World) (h : ¬ (1 ≤ x ∧ x ≤ 64)) : Calls Tryd.prog 63 #[.int .i64 x] w fun e w' => e = .returned (.bool false) ∧ w = w' :=
  (sizeOk_any x w).mono fun e w' ⟨he, hw⟩ => ⟨by
    rw [he]
    by_cases h1 : 1 ≤ x
    · rw [decide_eq_false (show ¬ x ≤ 64 from fun h2 => h ⟨h1, h2⟩), Bool.and_false]
    · rw [decide_eq_false h1]; rfl, hw⟩

def wordV8 (W : List Nat) : List Value := W.map fun x : Nat => .int .u64 (x : Int)
/-- block g is the words W -/
def WordsIn (w : World) (g : Nat) (W : List Nat) : Prop := BoxV 93 w g (wordV8 W).toArray
theorem WordsIn.cell {w : World} {g : Nat} {W : List Nat} (h : WordsIn w g W) (i : Nat) (hi : i < W.length) : w.cell? ⟨g, i, none⟩ = some (.int .u64 (W[i] : Nat)) := BoxV.cell h i _ (by simp [wordV8, hi])
theorem WordsIn.set {w : World} {g i : Nat} {W : List Nat} (h : WordsIn w g W) (x : Nat) : WordsIn (w.setCell ⟨g, i, none⟩ (.int .u64 (x : Int))) g (W.set i x) := by
  have := BoxV.set (i := i) h (.int .u64 (x : Int))
  unfold WordsIn
  simpa [wordV8, List.map_set] using this
theorem wrap_u64 (n : Int) : IntKind.u64.wrap n = n % 18446744073709551616 := by simp [IntKind.wrap, IntKind.bits, IntKind.signed]

def SetPost8 (g : Nat) (W : List Nat) (m : Nat) (w : World) (e : Ending) (w' : World) : Prop := e = .returned (.tuple #[]) ∧ WordsIn w' g (setW W m) ∧ Only (some g) w w'
set_option maxHeartbeats 1000000 in
set_option maxRecDepth 20000 in
theorem setBit_any (g m : Nat) (W : List Nat) (w : World) (hw : WordsIn w g W) (hl : W.length = 8) (hlt : ∀ x ∈ W, x < 2 ^ 64) (hm : m < 512) :
    Calls Tryd.prog 65 #[.int .i64 m, .pointer (some ⟨g, 0, none⟩)] w (SetPost8 g W m w) := by
  obtain ⟨p, hp⟩ : ∃ p, p = m / 64 := ⟨_, rfl⟩
  obtain ⟨r, hr⟩ : ∃ r, r = m % 64 := ⟨_, rfl⟩
  have hp8 : p < 8 := by omega
  have hr64 : r < 64 := by omega
  have hpW : p < W.length := by omega
  have hs : setW W m = W.set p (W[p] ||| 2 ^ r) := by
    subst hp hr
    unfold setW
    rw [List.getElem?_eq_getElem hpW]
    rfl
  have c0 := hw.cell p hpW
  have f0 := BoxV.frozen hw p
  have hx := hlt W[p] (List.getElem_mem _)
  have hw2 := hw.set (i := p) (W[p] ||| 2 ^ r)
  rw [← hs] at hw2
  have hpw : 2 ^ r < 18446744073709551616 := Nat.pow_lt_pow_right (n := 64) (by omega) hr64
  have e5 := u64_or_nat W[p] (2 ^ r) hx hpw
  have e1 : IntKind.i64.wrap ((m : Int) / 64) = (p : Int) := by rw [IntKind.wrap_i64]; omega
  have e2 : (m : Int).tmod 64 = (r : Int) := by rw [Int.tmod_eq_emod_of_nonneg (by omega)]; omega
  have e4 : IntKind.u64.wrap (2 ^ r : Int) = 2 ^ r := by
    have h2 : ((2 : Int) ^ r) = ((2 ^ r : Nat) : Int) := by rw [Int.natCast_pow]; rfl
    rw [wrap_u64, h2]
    generalize 2 ^ r = pw at *
    omega
  have HW2 := hide hw2
  have HO := hide (Only.set g p w (.int .u64 ((W[p] ||| 2 ^ r : Nat) : Int)))
  generalize W[p] ||| 2 ^ r = y at *
  generalize W[p] = x at *
  rw [show ((2 ^ r : Nat) : Int) = 2 ^ r by rw [Int.natCast_pow]; rfl] at e5
  have i1 : (p : Int) < 8 := by omega
  clear hp hr hs hw2 hw hpW hlt hpw hx
  go_enter Tryd.func65, Tryd.ntmps65
  go_wp2_with fail
  go_still_tail 9, (by kernel_rfl)
  change wpList _ _ _ _ _ w.drew
  go_wp2_with fail
  go_end0
  exact ⟨rfl, HW2.out, HO.out.drew⟩

def upK (n : Nat) (F k : List UInt8) : Nat → Bool
  | 0 => true
  | i + 1 => upK n F k i && bitOn F (kbit k n i)
theorem upK_three (F k : List UInt8) : upK (8 * F.length) F k 3 = decide (hasK3 F k) := by
  show (((true && bitOn F (kbit k _ 0)) && bitOn F (kbit k _ 1)) && bitOn F (kbit k _ 2)) = _
  rw [Bool.true_and, Bool.eq_iff_iff, Bool.and_eq_true, Bool.and_eq_true, decide_eq_true_eq]
  constructor
  · rintro ⟨⟨h0, h1⟩, h2⟩ i hi
    have : i = 0 ∨ i = 1 ∨ i = 2 := by omega
    rcases this with rfl | rfl | rfl <;> assumption
  · intro h
    exact ⟨⟨h 0 (by omega), h 1 (by omega)⟩, h 2 (by omega)⟩
end Go.Proofs.YtdlkgpobjacgeaaDoor

/-
  Contract of impl.eachBloomBit under whatever closure.
-/
namespace Go.Proofs.YtdlkgpobjacgeaaDoor
open Go.ChangeShapes Go.WideShapes Go.ChangeAt Go.RowKit

theorem iCrcV (s : ByteArray) (w : World) (hm : s.size ≤ maxLen) (h0 : 0 < w.heap.size) (hT : Hid (CrcTabIn w)) : Calls Tryd.prog 87 #[.string s] w (IntPost w (crcV (bl s) : Nat)) := by
  have := iCrc_any s w hm h0 hT
  rwa [crcV_int] at this
/-- a key and the byte behind it, for the program -/
theorem key_xI (k : ByteArray) (h : k.size ≤ 1048576) : ∃ k2 : ByteArray, bl k2 = bl k ++ [120] ∧ k2.size = k.size + 1 ∧ ∀ W, (Op.stringOp .add k ⟨#[120]⟩).run Tryd.prog W = .ok (.string k2) W := by
  refine ⟨k ++ ⟨#[120]⟩, ?_, by rw [ByteArray.size_append]; rfl, fun W => ?_⟩
  · unfold bl
    rw [ByteArray.data_append, Array.toList_append]
  · exact run_string_add_sum (P := Tryd.prog) (w := W) k ⟨#[120]⟩ (by rw [show (ByteArray.mk #[120]).size = 1 from rfl]; omega)
def EndPost (P : World → Prop) (e : Ending) (w' : World) : Prop := e = .returned (.tuple #[]) ∧ P w'

set_option maxHeartbeats 1000000 in
theorem each1_any (q : Value) (P : Nat → World → Prop) (k : ByteArray) (z n : Nat) (w : World) (hk : k.size ≤ 1048576) (h1 : 1 ≤ z) (h2 : z ≤ 64) (hn : 8 * z = n) (h0 : 0 < w.heap.size) (hT : Hid (CrcTabIn w))
    (hP : ∀ W, Below w.heap.size w W → P 0 W) (hS : ∀ i W, i < 3 → P i W → Calls Tryd.prog 65 #[.int .i64 (kbit (bl k) n i : Nat), q] W (EndPost (P (i + 1)))) :
    Calls Tryd.prog 64 #[.string k, .int .i64 z, .func (.func 65) #[] #[q]] w (EndPost (P 3)) := by
  obtain ⟨k2, hk2, hs2, hadd⟩ := key_xI k hk
  have HC1 := hide (iCrcV k w (by unfold maxLen; omega) h0 hT)
  have HC2 := hide (fun W (h : Below w.heap.size w W) => iCrcV k2 W (by unfold maxLen; omega) (Nat.lt_of_lt_of_le h0 h.size) (hide (hT.out.below h h0)))
  have ha := crcV_le (bl k)
  have hb := crcV_le (bl k2)
  have HK : Hid (∀ i, kbit (bl k) n i = (crcV (bl k) + i * crcV (bl k2)) % n) := fun i => by rw [hk2]; rfl
  have HP := hide hP
  have HS := hide hS
  generalize crcV (bl k) = a at *
  generalize crcV (bl k2) = b at *
  clear hk2 hs2 hP hS
  have e0 : IntKind.i64.wrap (8 * (z : Int)) = (n : Int) := by rw [IntKind.wrap_i64]; omega
  have hn0 : ¬ n = 0 := by omega
  have hn2 : ¬ (n : Int) = 0 := by omega
  have hn' := hide hn
  clear hn
  go_enter Tryd.func64, Tryd.ntmps64
  go_wp2_with fail
  refine HC1.out.mono ?_
  rintro e w1 ⟨rfl, hb1⟩
  have HB1 := hide hb1
  clear hb1
  go_wp2_with fail
  refine (HC2.out _ HB1.out).mono ?_
  rintro e w2 ⟨rfl, hb2⟩
  have HB2 := hide (HB1.out.trans (hb2.mono HB1.out.size))
  clear hb2
  go_wp2_with fail
  go_loopw [8, 14] (fun _ i wr => ∃ j : Nat, i = .int .i64 j ∧ j ≤ 3 ∧ Hid (P j wr)) (fun _ i _ => 3 - (intOf i).toNat)
  case atStart => exact ⟨0, rfl, by omega, HP.out _ HB2.out⟩
  case round =>
    obtain ⟨j, rfl, hj, HPj⟩ := hrel
    by_cases hlt : j < 3
    · obtain ⟨jb, hjb⟩ : ∃ y, y = j * b := ⟨_, rfl⟩
      have hjb2 : jb ≤ 2 * 4294967295 := by rw [hjb]; exact Nat.mul_le_mul (by omega) hb
      obtain ⟨x, hx⟩ : ∃ x, x = a + jb := ⟨_, rfl⟩
      obtain ⟨y, hy⟩ : ∃ y, y = x % n := ⟨_, rfl⟩
      have e1 : IntKind.i64.wrap ((j : Int) * (b : Int)) = (jb : Int) := by
        have : ((j : Int) * (b : Int)) = ((jb : Nat) : Int) := by rw [hjb, Int.natCast_mul]
        rw [IntKind.wrap_i64, this]
        omega
      have e2 : IntKind.i64.wrap ((a : Int) + (jb : Int)) = (x : Int) := by rw [IntKind.wrap_i64]; omega
      have e3 : (x : Int).tmod n = (y : Int) := by rw [hy]; exact (Int.ofNat_tmod x n).symm
      have HY := hide (show kbit (bl k) n j = y by rw [HK.out j, hy, hx, hjb])
      have HC3 := hide (HS.out j wr hlt HPj.out)
      rw [HY.out] at HC3
      clear hjb hx hy
      go_wp2_with fail
      refine HC3.out.mono ?_
      rintro e w3 ⟨rfl, hp3⟩
      go_wp2_with fail
      go_roundw
      case rel => exact ⟨j + 1, by go_num, by omega, hp3⟩
      case measure => simp [intOf]; omega
    · have HJ := hide (show j = 3 by omega)
      go_wp2_with fail
      go_end0
      exact ⟨rfl, by rw [← HJ.out]; exact HPj.out⟩

end Go.Proofs.YtdlkgpobjacgeaaDoor
