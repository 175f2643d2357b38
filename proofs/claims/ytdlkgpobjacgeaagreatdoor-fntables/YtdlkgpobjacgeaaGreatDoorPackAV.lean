/-
  Texts of this proof, put together: TakeS, CutA, CutM, CutW.
-/
import Derived.Test.YtdlkgpobjacgeaaGreatDoorPackAU
import Derived.Test.YtdlkgpobjacgeaaGreatDoorPackAK
import Derived.Deep.QuietTactic
import Derived.BigQuiet
import Derived.Test.YtdlkgpobjacgeaaGreatDoorPackAT
import Derived.Test.YtdlkgpobjacgeaaGreatDoorPackAN
import Derived.Test.YtdlkgpobjacgeaaGreatDoorPackAA

/-
  Contract of spec.l6Take: so many bytes behind their number.
-/
namespace Go.Proofs.YtdlkgpobjacgeaaGreatDoor
open Go.ChangeShapes Go.WideShapes Go.ChangeAt Go.RowKit

theorem vars1 (s : List UInt8) (p : Int) : (varsF s 1 p).2 < 0 ∨ ∃ x q : Nat, varsF s 1 p = ([x], (q : Int)) ∧ q ≤ s.length ∧ x ≤ 562949953421311 := by
  by_cases h : p < 0 ∨ (s.length : Int) < p
  · left
    rw [varsF_out s 0 p h]
    decide
  · obtain ⟨m, rfl⟩ : ∃ m : Nat, p = m := ⟨p.toNat, by omega⟩
    by_cases h0 : (readVarL (s.drop m)).2 = 0
    · left
      rw [varsF_none s 0 m (by omega) h0]
      decide
    · right
      refine ⟨_, _, varsF_step s 0 m (by omega) h0, ?_, (readVarL_le (s.drop m)).1⟩
      have := (readVarL_le (s.drop m)).2
      rw [List.length_drop] at this
      omega
theorem takeB_no {s : List UInt8} {p : Int} (h : (varsF s 1 p).2 < 0) : takeB s p = [] ∧ takeE s p = -1 := ⟨if_pos (.inl h), if_pos (.inl h)⟩
theorem takeB_far {s : List UInt8} {p : Int} {x q : Nat} (he : varsF s 1 p = ([x], (q : Int))) (h : (s.length : Int) - q < x) : takeB s p = [] ∧ takeE s p = -1 := by
  unfold takeB takeE
  rw [he]
  exact ⟨if_pos (.inr h), if_pos (.inr h)⟩
theorem takeB_yes {s : List UInt8} {p : Int} {x q : Nat} (he : varsF s 1 p = ([x], (q : Int))) (h : q + x ≤ s.length) : takeB s p = (s.drop q).take x ∧ takeE s p = ((q + x : Nat) : Int) := by
  have hno : ¬ ((q : Int) < 0 ∨ (s.length : Int) - q < (([x] : List Nat).headD 0 : Nat)) := by
    rw [List.headD_cons]
    omega
  unfold takeB takeE
  rw [he]
  exact ⟨(if_neg hno).trans (by rw [Int.toNat_natCast, List.headD_cons]), (if_neg hno).trans (by rw [List.headD_cons]; omega)⟩
theorem ext_mid (s : ByteArray) (q x : Nat) : s.extract q (q + x) = ⟨(((bl s).drop q).take x).toArray⟩ := by
  apply ba_ext
  rw [bl_of]
  obtain ⟨⟨l⟩⟩ := s
  simp [ByteArray.extract, ByteArray.copySlice]
def TakePost (w : World) (b : List UInt8) (q : Int) (e : Ending) (w' : World) : Prop := e = .returned (.tuple #[.string ⟨b.toArray⟩, .int .i64 q]) ∧ Below w.heap.size w w'

set_option maxHeartbeats 1000000 in
set_option maxRecDepth 20000 in
theorem l6Take_any (s : ByteArray) (hm : s.size ≤ 1099511627775) (p : Int) (w : World) :
    Calls Tryz.prog 50 #[.string s, .int .i64 p] w (TakePost w (takeB (bl s) p) (takeE (bl s) p)) := by
  have HC := hide (fun W => l6Vars_any s hm p 1 (by omega) W)
  rw [show (1 : Int).toNat = 1 from rfl] at HC
  rcases vars1 (bl s) p with hq | ⟨x, q, he, hql, hx⟩
  · obtain ⟨e1, e2⟩ := takeB_no hq
    rw [e1, e2]
    obtain ⟨L, hL⟩ : ∃ L, L = (varsF (bl s) 1 p).1 := ⟨_, rfl⟩
    obtain ⟨Q, hQ⟩ : ∃ Q, Q = (varsF (bl s) 1 p).2 := ⟨_, rfl⟩
    rw [← hL, ← hQ] at HC
    rw [← hQ] at hq
    clear hL hQ e1 e2
    have hd : decide (Q < 0) = true := decide_eq_true hq
    go_enter Tryz.func50, Tryz.ntmps50
    go_wp2_with fail
    refine (HC.out _).mono ?_
    rintro e w1 ⟨v, rfl, ho, hb1⟩
    have HB1 := hide hb1
    clear hb1 ho
    go_wp2_with fail
    go_ret2
    exact ⟨rfl, HB1.out⟩
  · rw [he] at HC
    rw [bl_len] at hql
    by_cases hf : (s.size : Int) - q < x
    · obtain ⟨e1, e2⟩ := takeB_far he (by rw [bl_len]; exact hf)
      rw [e1, e2]
      have hd : decide ((s.size : Int) - q < x) = true := decide_eq_true hf
      clear e1 e2 he
      go_enter Tryz.func50, Tryz.ntmps50
      go_wp2_with fail
      refine (HC.out _).mono ?_
      rintro e w1 ⟨v, rfl, ho, hb1⟩
      obtain ⟨g, cap, tl, rfl, hgb, hglt, hW⟩ := ho.words (by simp)
      have c0 : w1.cell? ⟨g, 0, none⟩ = some (.int .i64 (x : Int)) := hW.cell 0 (by simp)
      have HB1 := hide hb1
      clear hb1 ho hW
      go_wp2_with fail
      go_ret2
      exact ⟨rfl, HB1.out⟩
    · obtain ⟨e1, e2⟩ := takeB_yes he (by rw [bl_len]; omega)
      rw [e1, e2]
      have hd : decide ((s.size : Int) - q < x) = false := decide_eq_false hf
      have hqx : q + x ≤ s.size := by omega
      have HT := hide (ext_mid s q x)
      obtain ⟨T, hT⟩ : ∃ T, T = ((bl s).drop q).take x := ⟨_, rfl⟩
      rw [← hT] at HT
      rw [← hT]
      clear e1 e2 he hT hf
      go_enter Tryz.func50, Tryz.ntmps50
      go_wp2_with fail
      refine (HC.out _).mono ?_
      rintro e w1 ⟨v, rfl, ho, hb1⟩
      obtain ⟨g, cap, tl, rfl, hgb, hglt, hW⟩ := ho.words (by simp)
      have c0 : w1.cell? ⟨g, 0, none⟩ = some (.int .i64 (x : Int)) := hW.cell 0 (by simp)
      have HB1 := hide hb1
      clear hb1 ho hW
      go_wp2_with fail
      go_quiet (fail)
      go_wp2_with fail
      go_ret2
      exact ⟨by rw [← HT.out]; rfl, ⟨HB1.out.os, HB1.out.tape, HB1.out.output, HB1.out.size, HB1.out.block⟩⟩
end Go.Proofs.YtdlkgpobjacgeaaGreatDoor

/-
  Contract of impl.cutText.
-/
namespace Go.Proofs.YtdlkgpobjacgeaaGreatDoor
open Go.ChangeShapes Go.WideShapes Go.ChangeAt Go.RowKit

def CutPost (w : World) (a b : List UInt8) (e : Ending) (w' : World) : Prop := e = .returned (.tuple #[.string ⟨a.toArray⟩, .string ⟨b.toArray⟩]) ∧ Below w.heap.size w w'
set_option maxHeartbeats 1000000 in
set_option maxRecDepth 20000 in
theorem cutText_any (s : ByteArray) (hm : s.size ≤ 1048576) (w : World) :
    Calls Tryz.prog 72 #[.string s] w (CutPost w (cutT (bl s)) (cutR (bl s))) := by
  have HC := hide (fun W => iReadVar_any s W (by unfold maxLen; omega))
  unfold RvPost at HC
  obtain ⟨x, n, hr⟩ : ∃ x n, readVarL (bl s) = (x, n) := ⟨_, _, rfl⟩
  obtain ⟨hx, hn⟩ := readVarL_le (bl s)
  rw [hr, bl_len] at hn
  rw [hr] at HC hx
  simp only at hx hn HC
  by_cases hf : (s.size : Int) - n < x
  · obtain ⟨e1, e2⟩ := cut_far hr (by rw [bl_len]; exact hf)
    rw [e1, e2]
    unfold CutPost
    rw [str_of]
    have hd : decide ((s.size : Int) - n < x) = true := decide_eq_true hf
    clear e1 e2 hr
    go_enter Tryz.func72, Tryz.ntmps72
    go_wp2_with fail
    refine (HC.out _).mono ?_
    rintro e w1 ⟨rfl, hb1⟩
    have HB1 := hide hb1
    clear hb1
    go_wp2_with fail
    go_ret2
    exact ⟨rfl, HB1.out⟩
  · obtain ⟨e1, e2⟩ := cut_near hr (by rw [bl_len]; exact hf)
    rw [e1, e2]
    have hd : decide ((s.size : Int) - n < x) = false := decide_eq_false hf
    have hnx : n + x ≤ s.size := by omega
    have HT := hide (ext_mid s n x)
    have HU := hide (ext_drop s (n + x))
    obtain ⟨T, hT⟩ : ∃ T, T = ((bl s).drop n).take x := ⟨_, rfl⟩
    obtain ⟨U, hU⟩ : ∃ U, U = (bl s).drop (n + x) := ⟨_, rfl⟩
    rw [← hT] at HT
    rw [← hU] at HU
    rw [← hT, ← hU]
    clear e1 e2 hr hT hU hf
    unfold CutPost
    go_enter Tryz.func72, Tryz.ntmps72
    go_wp2_with fail
    refine (HC.out _).mono ?_
    rintro e w1 ⟨rfl, hb1⟩
    have HB1 := hide hb1
    clear hb1
    go_wp2_with fail
    go_region
    all_goals go_wp2_with fail
    all_goals go_ret2
    all_goals exact ⟨by rw [← HT.out, ← HU.out]; rfl, HB1.out.drew⟩

end Go.Proofs.YtdlkgpobjacgeaaGreatDoor

/-
  Contract of impl.cutMark.
-/
namespace Go.Proofs.YtdlkgpobjacgeaaGreatDoor
open Go.ChangeShapes Go.WideShapes Go.ChangeAt Go.RowKit

def CutMPost (w : World) (d : Bool) (b : List UInt8) (e : Ending) (w' : World) : Prop := e = .returned (.tuple #[.bool d, .string ⟨b.toArray⟩]) ∧ Below w.heap.size w w'
theorem cutMark_any (s : ByteArray) (w : World) :
    Calls Tryz.prog 118 #[.string s] w (CutMPost w (decide ((bl s).take 1 = [1])) ((bl s).drop 1)) := by
  unfold CutMPost
  by_cases h0 : bl s = []
  · have hs : s = ⟨#[]⟩ := ba_ext h0
    subst hs
    rw [show decide ((bl ⟨#[]⟩).take 1 = [1]) = false from rfl, show (bl ⟨#[]⟩).drop 1 = [] from rfl]
    clear h0
    go_enter Tryz.func118, Tryz.ntmps118
    go_wp2_with fail
    go_ret2
    exact ⟨rfl, Below.refl _ _⟩
  have hpos : 0 < s.size := by
    rw [← bl_len]
    exact List.length_pos_iff.2 h0
  have hse : (s.toList.isEmpty) = false := by
    rw [ByteArray.toList_eq, List.isEmpty_eq_false_iff]
    exact h0
  have HU := hide (ext_drop s 1)
  obtain ⟨U, hU⟩ : ∃ U, U = (bl s).drop 1 := ⟨_, rfl⟩
  rw [← hU] at HU ⊢
  have he : s.extract 0 1 = ⟨((bl s).take 1).toArray⟩ := ext_take s 1
  obtain ⟨F, hF⟩ : ∃ F, F = (bl s).take 1 := ⟨_, rfl⟩
  rw [← hF] at he ⊢
  clear hU hF h0
  by_cases h1 : F = [1]
  · subst h1
    rw [show decide (([1] : List UInt8) = [1]) = true from rfl]
    go_enter Tryz.func118, Tryz.ntmps118
    go_wp2_with fail
    go_region
    all_goals go_wp2_with fail
    all_goals go_ret2
    all_goals exact ⟨by rw [← HU.out]; rfl, (Below.refl _ _).drew⟩
  · have hF1 : (F == [1]) = false := by rw [beq_eq_false_iff_ne]; exact h1
    rw [show decide (F = [1]) = false from decide_eq_false h1]
    clear h1
    go_enter Tryz.func118, Tryz.ntmps118
    go_wp2_with fail
    go_region
    all_goals go_wp2_with fail
    all_goals go_ret2
    all_goals exact ⟨by rw [← HU.out]; rfl, (Below.refl _ _).drew⟩
end Go.Proofs.YtdlkgpobjacgeaaGreatDoor

/-
  Contract of impl.cutVar.
-/
namespace Go.Proofs.YtdlkgpobjacgeaaGreatDoor
open Go.ChangeShapes Go.WideShapes Go.ChangeAt Go.RowKit

def CutVPost (w : World) (n : Nat) (b : List UInt8) (e : Ending) (w' : World) : Prop := e = .returned (.tuple #[.int .i64 (n : Int), .string ⟨b.toArray⟩]) ∧ Below w.heap.size w w'
theorem cutVar_any (s : ByteArray) (hm : s.size ≤ 1048576) (w : World) :
    Calls Tryz.prog 71 #[.string s] w (CutVPost w (cutVn (bl s)) (cutVr (bl s))) := by
  have HC := hide (fun W => iReadVar_any s W (by unfold maxLen; omega))
  unfold RvPost at HC
  unfold cutVn cutVr CutVPost
  obtain ⟨x, n, hr⟩ : ∃ x n, readVarL (bl s) = (x, n) := ⟨_, _, rfl⟩
  obtain ⟨hx, hn⟩ := readVarL_le (bl s)
  rw [hr, bl_len] at hn
  rw [hr] at HC hx ⊢
  simp only at hx hn HC ⊢
  have HU := hide (ext_drop s n)
  obtain ⟨U, hU⟩ : ∃ U, U = (bl s).drop n := ⟨_, rfl⟩
  rw [← hU] at HU ⊢
  clear hr hU
  go_enter Tryz.func71, Tryz.ntmps71
  go_wp2_with fail
  refine (HC.out _).mono ?_
  rintro e w1 ⟨rfl, hb1⟩
  have HB1 := hide hb1
  clear hb1
  go_wp2_with fail
  go_region
  all_goals go_wp2_with fail
  all_goals go_ret2
  all_goals exact ⟨by rw [← HU.out]; rfl, HB1.out.drew⟩
end Go.Proofs.YtdlkgpobjacgeaaGreatDoor
