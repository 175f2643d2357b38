/-
  Contracts of strconv.Atoi over this program, and of impl.ReadDec.
-/
import Derived.Test.YtbogonhmpibelaaDoorLawDec
namespace Go.Proofs.YtbogonhmpibelaaDoor
open Go.ChangeShapes Go.WideShapes Go.ChangeAt Go.RowKit

/-- the two errors of the library that Atoi hands on -/
def Errs (w : World) : Prop := (∃ tp p, w.var? Tryd.prog "strconv.ErrSyntax" = some #[.iface tp p]) ∧ (∃ tp p, w.var? Tryd.prog "strconv.ErrRange" = some #[.iface tp p])
theorem gSyn : Tryd.prog.globalNamed "strconv.ErrSyntax" = some 0 := by kernel_rfl
theorem gRan : Tryd.prog.globalNamed "strconv.ErrRange" = some 1 := by kernel_rfl
theorem Errs.below {w w' : World} (h : Errs w) (hb : Below w.heap.size w w') : Errs w' := by
  obtain ⟨⟨a, b, h1⟩, c, d, h2⟩ := h
  exact ⟨⟨a, b, var?_below hb gSyn (var_lt gSyn h1) h1⟩, c, d, var?_below hb gRan (var_lt gRan h2) h2⟩

def AtoiPost (w : World) (s : ByteArray) (e : Ending) (w' : World) : Prop :=
  ((∃ v, Lib.atoiAll (bl s) = .ok v ∧ e = .returned (.tuple #[.int .i64 v, .nilIface])) ∨
    ((∀ v, Lib.atoiAll (bl s) ≠ .ok v) ∧ ∃ x a, e = .returned (.tuple #[.int .i64 x, .iface 61 (.pointer (some a))]))) ∧ Below w.heap.size w w'

theorem atoi_any (s : ByteArray) (w : World) (hs : s.size ≤ 281474976710656) (hE : Errs w) :
    Calls Tryd.prog 25 #[.string s] w (AtoiPost w s) := by
  obtain ⟨⟨tp, p, hv⟩, tq, q, hr⟩ := hE
  cases h : Lib.atoiAll s.data.toList
  · rename_i v
    refine (Any.strconv_Atoi_ok Tryd.laysC172 s (by omega) v h w).mono ?_
    rintro e w' ⟨rfl, hw⟩
    refine ⟨.inl ⟨v, h, rfl⟩, ?_⟩
    rcases hw with rfl | ⟨t, rfl⟩
    · exact Below.refl _ _
    · exact Go.Joins.below_bytesWorld _ _ _ _ (Nat.le_refl _)
  · refine (Any.strconv_Atoi_syntax_var Tryd.laysC172 s hs h tp p w hv).mono ?_
    rintro e w' ⟨N, rfl, _, _, hb⟩
    exact ⟨.inr ⟨(fun v hc => by rw [show bl s = s.data.toList from rfl, h] at hc; cases hc), _, _, rfl⟩, hb⟩
  · refine (Any.strconv_Atoi_range_var Tryd.laysC172 s hs h tq q w hr).mono ?_
    rintro e w' ⟨N, rfl, _, _, hb⟩
    exact ⟨.inr ⟨(fun v hc => by rw [show bl s = s.data.toList from rfl, h] at hc; cases hc), _, _, rfl⟩, hb⟩

def RdPost (w : World) (s : ByteArray) (e : Ending) (w' : World) : Prop :=
  ∃ x b, RD (bl s) x b ∧ e = .returned (.tuple #[.int .i64 x, .bool b]) ∧ Below w.heap.size w w'

theorem iReadDec_any (s : ByteArray) (w : World) (hs : s.size ≤ 281474976710656) (ht : Pow w) (hE : Errs w) :
    Calls Tryd.prog 13 #[.string s] w (RdPost w s) := by
  have HT := hide ht
  have HE := hide hE
  have HS := hide hs
  clear ht hE hs
  go_enter Tryd.func13, Tryd.ntmps13
  go_wp2_with fail
  refine (atoi_any s w HS.out HE.out).mono ?_
  rintro e w1 ⟨hcase, hb1⟩
  have HB1 := hide hb1
  clear hb1
  rcases hcase with ⟨v, hv, rfl⟩ | ⟨hno, x, a, rfl⟩
  · have HV := hide (RD.of_ok hv)
    clear hv
    by_cases h1 : v < -999999999
    · have hd1 : decide (v < -999999999) = true := decide_eq_true h1
      have HR := hide (HV.out.2 (by omega))
      clear h1
      go_wp2
      go_ret2
      exact ⟨0, false, HR.out, rfl, HB1.out⟩
    · have hd1 : decide (v < -999999999) = false := decide_eq_false h1
      by_cases h2 : 999999999 < v
      · have hd2 : decide (999999999 < v) = true := decide_eq_true h2
        have HR := hide (HV.out.2 (by omega))
        clear h1 h2
        go_wp2
        go_ret2
        exact ⟨0, false, HR.out, rfl, HB1.out⟩
      · have hd2 : decide (999999999 < v) = false := decide_eq_false h2
        have H0 := hide (show -9223372036854775808 ≤ v by omega)
        have H1 := hide (show v ≤ 9223372036854775807 by omega)
        by_cases h3 : Lib.itoa v = bl s
        · have HR := hide (HV.out.1 ⟨by omega, by omega⟩ h3)
          have hn : (Lib.itoa v == s.toList) = true := by rw [ByteArray.toList_eq, beq_iff_eq]; exact h3
          clear h1 h2 h3
          go_wp2_with (go_at_call 14; refine (iDec_any v H0.out H1.out _ (HT.out.below HB1.out)).mono ?_; rintro e w2 ⟨rfl, hb2⟩; have HB2 := hide hb2; clear hb2)
          go_ret2
          exact ⟨v, true, HR.out, rfl, HB1.out.trans (HB2.out.mono HB1.out.size)⟩
        · have HR := hide (HV.out.2 (fun h => h3 h.2))
          have hn : (Lib.itoa v == s.toList) = false := by rw [ByteArray.toList_eq, beq_eq_false_iff_ne]; exact h3
          clear h1 h2 h3
          go_wp2_with (go_at_call 14; refine (iDec_any v H0.out H1.out _ (HT.out.below HB1.out)).mono ?_; rintro e w2 ⟨rfl, hb2⟩; have HB2 := hide hb2; clear hb2)
          go_ret2
          exact ⟨0, false, HR.out, rfl, HB1.out.trans (HB2.out.mono HB1.out.size)⟩
  · have HR := hide (RD.of_atoi_ne hno)
    clear hno
    go_wp2
    go_ret2
    exact ⟨0, false, HR.out, rfl, HB1.out⟩
end Go.Proofs.YtbogonhmpibelaaDoor
