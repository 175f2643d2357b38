/-
  Texts of this proof, put together: TakeS, CutA, CutW, LogH.
-/
import Derived.Test.YtakjjfbocokpaaaDoorPackAP
import Derived.Test.YtakjjfbocokpaaaDoorPackAC
import Derived.Deep.QuietTactic
import Derived.BigQuiet
import Derived.Test.YtakjjfbocokpaaaDoorPackAM
import Derived.Test.YtakjjfbocokpaaaDoorPackAN
import Derived.Test.YtakjjfbocokpaaaDoorPackAA

/-
  Contract of spec.l6Take: so many bytes behind their number.
-/
namespace Go.Proofs.YtakjjfbocokpaaaDoor
open Go.ChangeShapes Go.WideShapes Go.ChangeAt Go.RowKit

theorem vars1 (s : List UInt8) (p : Int) : (varsF s 1 p).2 < 0 ∨ ∃ x q : Nat, varsF s 1 p = ([x], (q : Int)) ∧ q ≤ s.length ∧ x ≤ 562949953421311 := by
  by_cases h : p < 0 ∨ (s.length : Int) < p
  · left
    rw [varsF_out s 0 p h]
    decide
  · obtain ⟨m, rfl⟩ : ∃ m : Nat, p = m := ⟨p.toNat, by omega⟩
    by_cases h0 : (readVarL (s.drop m)).2 = 0
    · left
      rw [varsF_none s 0 m (by omega) h0]
      decide
    · right
      refine ⟨_, _, varsF_step s 0 m (by omega) h0, ?_, (readVarL_le (s.drop m)).1⟩
      have := (readVarL_le (s.drop m)).2
      rw [List.length_drop] at this
      omega
theorem takeB_no {s : List UInt8} {p : Int} (h : (varsF s 1 p).2 < 0) : takeB s p = [] ∧ takeE s p = -1 := ⟨if_pos (.inl h), if_pos (.inl h)⟩
theorem takeB_far {s : List UInt8} {p : Int} {x q : Nat} (he : varsF s 1 p = ([x], (q : Int))) (h : (s.length : Int) - q < x) : takeB s p = [] ∧ takeE s p = -1 := by
  unfold takeB takeE
  rw [he]
  exact ⟨if_pos (.inr h), if_pos (.inr h)⟩
theorem takeB_yes {s : List UInt8} {p : Int} {x q : Nat} (he : varsF s 1 p = ([x], (q : Int))) (h : q + x ≤ s.length) : takeB s p = (s.drop q).take x ∧ takeE s p = ((q + x : Nat) : Int) := by
  have hno : ¬ ((q : Int) < 0 ∨ (s.length : Int) - q < (([x] : List Nat).headD 0 : Nat)) := by
    rw [List.headD_cons]
    omega
  unfold takeB takeE
  rw [he]
  exact ⟨(if_neg hno).trans (by rw [Int.toNat_natCast, List.headD_cons]), (if_neg hno).trans (by rw [List.headD_cons]; omega)⟩
theorem ext_mid (s : ByteArray) (q x : Nat) : s.extract q (q + x) = ⟨(((bl s).drop q).take x).toArray⟩ := by
  apply ba_ext
  rw [bl_of]
  obtain ⟨⟨l⟩⟩ := s
  simp [ByteArray.extract, ByteArray.copySlice]
def TakePost (w : World) (b : List UInt8) (q : Int) (e : Ending) (w' : World) : Prop := e = .returned (.tuple #[.string ⟨b.toArray⟩, .int .i64 q]) ∧ Below w.heap.size w w'

set_option maxHeartbeats 1000000 in
set_option maxRecDepth 20000 in
theorem l6Take_any (s : ByteArray) (hm : s.size ≤ 1099511627775) (p : Int) (w : World) :
    Calls Tryd.prog 71 #[.string s, .int .i64 p] w (TakePost w (takeB (bl s) p) (takeE (bl s) p)) := by
  have HC := hide (fun W => l6Vars_any s hm p 1 (by omega) W)
  rw [show (1 : Int).toNat = 1 from rfl] at HC
  rcases vars1 (bl s) p with hq | ⟨x, q, he, hql, hx⟩
  · obtain ⟨e1, e2⟩ := takeB_no hq
    rw [e1, e2]
    obtain ⟨L, hL⟩ : ∃ L, L = (varsF (bl s) 1 p).1 := ⟨_, rfl⟩
    obtain ⟨Q, hQ⟩ : ∃ Q, Q = (varsF (bl s) 1 p).2 := ⟨_, rfl⟩
    rw [← hL, ← hQ] at HC
    rw [← hQ] at hq
    clear hL hQ e1 e2
    have hd : decide (Q < 0) = true := decide_eq_true hq
    go_enter Tryd.func71, Tryd.ntmps71
    go_wp2_with fail
    refine (HC.out _).mono ?_
    rintro e w1 ⟨v, rfl, ho, hb1⟩
    have HB1 := hide hb1
    clear hb1 ho
    go_wp2_with fail
    go_ret2
    exact ⟨rfl, HB1.out⟩
  · rw [he] at HC
    rw [bl_len] at hql
    by_cases hf : (s.size : Int) - q < x
    · obtain ⟨e1, e2⟩ := takeB_far he (by rw [bl_len]; exact hf)
      rw [e1, e2]
      have hd : decide ((s.size : Int) - q < x) = true := decide_eq_true hf
      clear e1 e2 he
      go_enter Tryd.func71, Tryd.ntmps71
      go_wp2_with fail
      refine (HC.out _).mono ?_
      rintro e w1 ⟨v, rfl, ho, hb1⟩
      obtain ⟨g, cap, tl, rfl, hgb, hglt, hW⟩ := ho.words (by simp)
      have c0 : w1.cell? ⟨g, 0, none⟩ = some (.int .i64 (x : Int)) := hW.cell 0 (by simp)
      have HB1 := hide hb1
      clear hb1 ho hW
      go_wp2_with fail
      go_ret2
      exact ⟨rfl, HB1.out⟩
    · obtain ⟨e1, e2⟩ := takeB_yes he (by rw [bl_len]; omega)
      rw [e1, e2]
      have hd : decide ((s.size : Int) - q < x) = false := decide_eq_false hf
      have hqx : q + x ≤ s.size := by omega
      have HT := hide (ext_mid s q x)
      obtain ⟨T, hT⟩ : ∃ T, T = ((bl s).drop q).take x := ⟨_, rfl⟩
      rw [← hT] at HT
      rw [← hT]
      clear e1 e2 he hT hf
      go_enter Tryd.func71, Tryd.ntmps71
      go_wp2_with fail
      refine (HC.out _).mono ?_
      rintro e w1 ⟨v, rfl, ho, hb1⟩
      obtain ⟨g, cap, tl, rfl, hgb, hglt, hW⟩ := ho.words (by simp)
      have c0 : w1.cell? ⟨g, 0, none⟩ = some (.int .i64 (x : Int)) := hW.cell 0 (by simp)
      have HB1 := hide hb1
      clear hb1 ho hW
      go_wp2_with fail
      go_quiet (fail)
      go_wp2_with fail
      go_ret2
      exact ⟨by rw [← HT.out]; rfl, ⟨HB1.out.os, HB1.out.tape, HB1.out.output, HB1.out.size, HB1.out.block⟩⟩
end Go.Proofs.YtakjjfbocokpaaaDoor

/-
  Contract of impl.cutText.
-/
namespace Go.Proofs.YtakjjfbocokpaaaDoor
open Go.ChangeShapes Go.WideShapes Go.ChangeAt Go.RowKit

def CutPost (w : World) (a b : List UInt8) (e : Ending) (w' : World) : Prop := e = .returned (.tuple #[.string ⟨a.toArray⟩, .string ⟨b.toArray⟩]) ∧ Below w.heap.size w w'
set_option maxHeartbeats 1000000 in
set_option maxRecDepth 20000 in
theorem cutText_any (s : ByteArray) (hm : s.size ≤ 1048576) (w : World) :
    Calls Tryd.prog 118 #[.string s] w (CutPost w (cutT (bl s)) (cutR (bl s))) := by
  have HC := hide (fun W => iReadVar_any s W (by unfold maxLen; omega))
  unfold RvPost at HC
  obtain ⟨x, n, hr⟩ : ∃ x n, readVarL (bl s) = (x, n) := ⟨_, _, rfl⟩
  obtain ⟨hx, hn⟩ := readVarL_le (bl s)
  rw [hr, bl_len] at hn
  rw [hr] at HC hx
  simp only at hx hn HC
  by_cases hf : (s.size : Int) - n < x
  · obtain ⟨e1, e2⟩ := cut_far hr (by rw [bl_len]; exact hf)
    rw [e1, e2]
    unfold CutPost
    rw [str_of]
    have hd : decide ((s.size : Int) - n < x) = true := decide_eq_true hf
    clear e1 e2 hr
    go_enter Tryd.func118, Tryd.ntmps118
    go_wp2_with fail
    refine (HC.out _).mono ?_
    rintro e w1 ⟨rfl, hb1⟩
    have HB1 := hide hb1
    clear hb1
    go_wp2_with fail
    go_ret2
    exact ⟨rfl, HB1.out⟩
  · obtain ⟨e1, e2⟩ := cut_near hr (by rw [bl_len]; exact hf)
    rw [e1, e2]
    have hd : decide ((s.size : Int) - n < x) = false := decide_eq_false hf
    have hnx : n + x ≤ s.size := by omega
    have HT := hide (ext_mid s n x)
    have HU := hide (ext_drop s (n + x))
    obtain ⟨T, hT⟩ : ∃ T, T = ((bl s).drop n).take x := ⟨_, rfl⟩
    obtain ⟨U, hU⟩ : ∃ U, U = (bl s).drop (n + x) := ⟨_, rfl⟩
    rw [← hT] at HT
    rw [← hU] at HU
    rw [← hT, ← hU]
    clear e1 e2 hr hT hU hf
    unfold CutPost
    go_enter Tryd.func118, Tryd.ntmps118
    go_wp2_with fail
    refine (HC.out _).mono ?_
    rintro e w1 ⟨rfl, hb1⟩
    have HB1 := hide hb1
    clear hb1
    go_wp2_with fail
    go_region
    all_goals go_wp2_with fail
    all_goals go_ret2
    all_goals exact ⟨by rw [← HT.out, ← HU.out]; rfl, HB1.out.drew⟩

end Go.Proofs.YtakjjfbocokpaaaDoor

/-
  Contract of impl.cutVar.
-/
namespace Go.Proofs.YtakjjfbocokpaaaDoor
open Go.ChangeShapes Go.WideShapes Go.ChangeAt Go.RowKit

def CutVPost (w : World) (n : Nat) (b : List UInt8) (e : Ending) (w' : World) : Prop := e = .returned (.tuple #[.int .i64 (n : Int), .string ⟨b.toArray⟩]) ∧ Below w.heap.size w w'
theorem cutVar_any (s : ByteArray) (hm : s.size ≤ 1048576) (w : World) :
    Calls Tryd.prog 117 #[.string s] w (CutVPost w (cutVn (bl s)) (cutVr (bl s))) := by
  have HC := hide (fun W => iReadVar_any s W (by unfold maxLen; omega))
  unfold RvPost at HC
  unfold cutVn cutVr CutVPost
  obtain ⟨x, n, hr⟩ : ∃ x n, readVarL (bl s) = (x, n) := ⟨_, _, rfl⟩
  obtain ⟨hx, hn⟩ := readVarL_le (bl s)
  rw [hr, bl_len] at hn
  rw [hr] at HC hx ⊢
  simp only at hx hn HC ⊢
  have HU := hide (ext_drop s n)
  obtain ⟨U, hU⟩ : ∃ U, U = (bl s).drop n := ⟨_, rfl⟩
  rw [← hU] at HU ⊢
  clear hr hU
  go_enter Tryd.func117, Tryd.ntmps117
  go_wp2_with fail
  refine (HC.out _).mono ?_
  rintro e w1 ⟨rfl, hb1⟩
  have HB1 := hide hb1
  clear hb1
  go_wp2_with fail
  go_region
  all_goals go_wp2_with fail
  all_goals go_ret2
  all_goals exact ⟨by rw [← HU.out]; rfl, HB1.out.drew⟩
end Go.Proofs.YtakjjfbocokpaaaDoor

/-
  Plain mathematics for chapter 8: a row as the specification reads it at place p.
-/
namespace Go.Proofs.YtakjjfbocokpaaaDoor
open Go.ChangeShapes Go.WideShapes Go.ChangeAt Go.RowKit

theorem varsF_cases (S : List UInt8) : ∀ (n : Nat) (p : Int), (varsF S n p).2 < 0 ∨ ∃ q : Nat, (varsF S n p).2 = (q : Int) ∧ (varsF S n p).1.length = n ∧ p ≤ q ∧ (0 < n → q ≤ S.length)
  | 0, p => by
    by_cases h : p < 0
    · exact .inl h
    · exact .inr ⟨p.toNat, by show p = _; omega, rfl, by omega, fun h => absurd h (by decide)⟩
  | n + 1, p => by
    by_cases h : p < 0 ∨ (S.length : Int) < p
    · rw [varsF_out S n p h]
      exact .inl (by decide)
    · obtain ⟨k, rfl⟩ : ∃ k : Nat, p = (k : Int) := ⟨p.toNat, by omega⟩
      have hk : k ≤ S.length := by omega
      by_cases h0 : (readVarL (S.drop k)).2 = 0
      · rw [varsF_none S n k hk h0]
        exact .inl (by decide)
      · rw [varsF_step S n k hk h0]
        have hle := (readVarL_le (S.drop k)).2
        rw [List.length_drop] at hle
        rcases varsF_cases S n ((k + (readVarL (S.drop k)).2 : Nat) : Int) with h1 | ⟨q, h1, h2, h3, h4⟩
        · exact .inl h1
        · refine .inr ⟨q, h1, by rw [List.length_cons, h2], by omega, fun _ => ?_⟩
          cases n with
          | zero =>
            rw [varsF_zero] at h1
            simp only at h1
            omega
          | succ m => exact h4 (by omega)
theorem takeE_cases (S : List UInt8) (q : Int) : takeE S q = -1 ∨ ∃ e : Nat, takeE S q = (e : Int) ∧ q ≤ e ∧ e ≤ S.length := by
  rcases vars1 S q with h | ⟨x, q', h, hq, hx⟩
  · exact .inl (takeB_no h).2
  · by_cases hf : (S.length : Int) - q' < x
    · exact .inl (takeB_far h hf).2
    · have hqx : q' + x ≤ S.length := by omega
      refine .inr ⟨q' + x, (takeB_yes h hqx).2, ?_, hqx⟩
      rcases varsF_cases S 1 q with h1 | ⟨q2, h1, _, h3, _⟩
      · rw [h] at h1
        simp only at h1
        omega
      · rw [h] at h1
        simp only at h1
        omega
theorem takeB_le (S : List UInt8) (q : Int) : (takeB S q).length ≤ S.length := by
  unfold takeB
  split
  · exact Nat.zero_le _
  · rw [List.length_take, List.length_drop]; omega
theorem vars_snoc (A B : List UInt8) (m n : Nat) (hm : m ≤ 562949953421311) :
    varsF (A ++ (varL m ++ B)) (n + 1) (A.length : Nat) = (m :: (varsF (A ++ (varL m ++ B)) n (((A ++ varL m).length : Nat) : Int)).1, (varsF (A ++ (varL m ++ B)) n (((A ++ varL m).length : Nat) : Int)).2) := by
  have hd : (A ++ (varL m ++ B)).drop A.length = varL m ++ B := List.drop_left
  have hr := readVarL_var m hm B
  have hp := varL_pos m
  have h0 : (readVarL ((A ++ (varL m ++ B)).drop A.length)).2 ≠ 0 := by rw [hd, hr]; simp only; omega
  rw [varsF_step _ n A.length (by rw [List.length_append]; omega) h0, hd, hr, List.length_append]
/-- a row that stands at place p is read there -/
theorem spec_good (pre y : List UInt8) {r : Lg} (h : rowOkL r) :
    (varsF (pre ++ showR r ++ y) 3 ((pre.length + 4 : Nat) : Int)).1 = [r.1.toNat, r.2.1.toNat, r.2.2.1.toNat] ∧
    takeB (pre ++ showR r ++ y) (varsF (pre ++ showR r ++ y) 3 ((pre.length + 4 : Nat) : Int)).2 = bl r.2.2.2.1 ∧
    takeE (pre ++ showR r ++ y) (varsF (pre ++ showR r ++ y) 3 ((pre.length + 4 : Nat) : Int)).2 = ((pre.length + (showR r).length : Nat) : Int) := by
  obtain ⟨⟨h1, h2⟩, ⟨h3, h4, h5, h6⟩, h7⟩ := id h
  obtain ⟨a, ha⟩ : ∃ a, a = r.1.toNat := ⟨_, rfl⟩
  obtain ⟨b, hb⟩ : ∃ b, b = r.2.1.toNat := ⟨_, rfl⟩
  obtain ⟨c, hc⟩ : ∃ c, c = r.2.2.1.toNat := ⟨_, rfl⟩
  obtain ⟨t, ht⟩ : ∃ t, t = bl r.2.2.2.1 := ⟨_, rfl⟩
  have hal : a ≤ 562949953421311 := by omega
  have hbl : b ≤ 562949953421311 := by omega
  have hcl : c ≤ 562949953421311 := by omega
  have htl : t.length ≤ 562949953421311 := by rw [ht, bl_len]; omega
  obtain ⟨F, hF⟩ : ∃ F, F = sumL (restL r) := ⟨_, rfl⟩
  have hFl : F.length = 4 := by rw [hF]; exact sumL_len _
  have hs : showR r = F ++ (varL a ++ (varL b ++ (varL c ++ pieceL t))) := by
    rw [showR_yes h, restL, varV_nat (by omega) (by omega), varV_nat h3 (by omega), varV_nat h5 (by omega), ← ha, ← hb, ← hc, ← ht, hF, restL, varV_nat (by omega) (by omega), varV_nat h3 (by omega), varV_nat h5 (by omega), ← ha, ← hb, ← hc, ← ht]
    simp only [List.append_assoc]
  rw [← ha, ← hb, ← hc, ← ht, hs]
  obtain ⟨A, hA⟩ : ∃ A, A = pre ++ F := ⟨_, rfl⟩
  have hAl : pre.length + 4 = A.length := by rw [hA, List.length_append, hFl]
  obtain ⟨S, hS⟩ : ∃ S, S = pre ++ (F ++ (varL a ++ (varL b ++ (varL c ++ pieceL t)))) ++ y := ⟨_, rfl⟩
  have e1 : S = A ++ (varL a ++ (varL b ++ (varL c ++ (pieceL t ++ y)))) := by rw [hS, hA]; simp only [List.append_assoc]
  have e2 : S = (A ++ varL a) ++ (varL b ++ (varL c ++ (pieceL t ++ y))) := by rw [e1]; simp only [List.append_assoc]
  have e3 : S = (A ++ varL a ++ varL b) ++ (varL c ++ (pieceL t ++ y)) := by rw [e1]; simp only [List.append_assoc]
  have e4 : S = (A ++ varL a ++ varL b ++ varL c) ++ pieceL t ++ y := by rw [e1]; simp only [List.append_assoc]
  have v1 := vars_snoc A (varL b ++ (varL c ++ (pieceL t ++ y))) a 2 hal
  have v2 := vars_snoc (A ++ varL a) (varL c ++ (pieceL t ++ y)) b 1 hbl
  have v3 := vars_snoc (A ++ varL a ++ varL b) (pieceL t ++ y) c 0 hcl
  have v4 := take_piece (A ++ varL a ++ varL b ++ varL c) t y htl
  rw [← e1] at v1
  rw [← e2] at v2
  rw [← e3] at v3
  rw [← e4] at v4
  rw [varsF_zero] at v3
  rw [v3] at v2
  rw [v2] at v1
  rw [← hS, hAl, v1]
  refine ⟨rfl, v4.1, ?_⟩
  rw [v4.2]
  simp only [List.length_append]
  have : A.length = pre.length + F.length := by rw [hA, List.length_append]
  omega

/-- what the specification finds at place p of S -/
def rowAt (S : List UInt8) (p : Nat) (a b c : Nat) : Lg := ((a : Int), (b : Int), (c : Int), ⟨(takeB S (varsF S 3 ((p + 4 : Nat) : Int)).2).toArray⟩, false)
theorem scan_at (S : List UInt8) (p : Nat) (hp : p ≤ S.length) :
    (takeE S (varsF S 3 ((p + 4 : Nat) : Int)).2 = -1 ∧ ¬ goodU (S.drop p)) ∨
    ∃ a b c e : Nat, (varsF S 3 ((p + 4 : Nat) : Int)).1 = [a, b, c] ∧ takeE S (varsF S 3 ((p + 4 : Nat) : Int)).2 = (e : Int) ∧ p ≤ e ∧ e ≤ S.length ∧
      ((showR (rowAt S p a b c) ≠ [] ∧ showR (rowAt S p a b c) = (S.drop p).take (e - p)) ∧ goodU (S.drop p) ∧ rowU (S.drop p) = rowAt S p a b c ∧ e = p + (showR (rowAt S p a b c)).length ∨
       (showR (rowAt S p a b c) = [] ∨ showR (rowAt S p a b c) ≠ (S.drop p).take (e - p)) ∧ ¬ goodU (S.drop p)) := by
  have hgood : goodU (S.drop p) → (varsF S 3 ((p + 4 : Nat) : Int)).1 = [(rowU (S.drop p)).1.toNat, (rowU (S.drop p)).2.1.toNat, (rowU (S.drop p)).2.2.1.toNat] ∧
      takeB S (varsF S 3 ((p + 4 : Nat) : Int)).2 = bl (rowU (S.drop p)).2.2.2.1 ∧ takeE S (varsF S 3 ((p + 4 : Nat) : Int)).2 = ((p + (showR (rowU (S.drop p))).length : Nat) : Int) := fun hg => by
    obtain ⟨h1, h2⟩ := good_split hg
    have hS : S = S.take p ++ showR (rowU (S.drop p)) ++ (S.drop p).drop (showR (rowU (S.drop p))).length := by
      rw [List.append_assoc, ← h2, List.take_append_drop]
    have hl : (S.take p).length = p := by rw [List.length_take]; omega
    have := spec_good (S.take p) ((S.drop p).drop (showR (rowU (S.drop p))).length) h1
    rwa [hl, ← hS] at this
  rcases takeE_cases S (varsF S 3 ((p + 4 : Nat) : Int)).2 with h | ⟨e, he, hqe, heS⟩
  · refine .inl ⟨h, fun hg => ?_⟩
    have := (hgood hg).2.2
    rw [h] at this
    omega
  · rcases varsF_cases S 3 ((p + 4 : Nat) : Int) with h1 | ⟨q, h1, h2, h3, h4⟩
    · exfalso
      have : takeE S (varsF S 3 ((p + 4 : Nat) : Int)).2 = -1 := by
        unfold takeE
        rw [varsF_out S 0 _ (.inl h1)]
        rfl
      omega
    · obtain ⟨a, b, c, hL⟩ : ∃ a b c, (varsF S 3 ((p + 4 : Nat) : Int)).1 = [a, b, c] := by
        match h : (varsF S 3 ((p + 4 : Nat) : Int)).1, h2 with
        | [a, b, c], _ => exact ⟨a, b, c, rfl⟩
      rw [h1] at hqe
      refine .inr ⟨a, b, c, e, hL, he, by omega, heS, ?_⟩
      by_cases hg : goodU (S.drop p)
      · obtain ⟨g1, g2, g3⟩ := hgood hg
        obtain ⟨⟨⟨o1, o2⟩, ⟨o3, o4, o5, o6⟩, o7⟩, o8⟩ := good_split hg
        rw [hL] at g1
        injection g1 with i1 i2
        injection i2 with i2 i3
        injection i3 with i3 _
        have hr : rowU (S.drop p) = rowAt S p a b c := by
          unfold rowAt
          rw [g2, i1, i2, i3, mk_bl, Int.toNat_of_nonneg (by omega), Int.toNat_of_nonneg o3, Int.toNat_of_nonneg o5]
          exact (bare_rowU (S.drop p)).symm
        have hee : e = p + (showR (rowAt S p a b c)).length := by rw [← hr]; omega
        refine .inl ⟨⟨by rw [← hr]; exact hg.1, ?_⟩, hg, hr, hee⟩
        rw [show e - p = (showR (rowAt S p a b c)).length by omega, ← hr]
        exact List.prefix_iff_eq_take.mp hg.2
      · refine .inr ⟨?_, hg⟩
        by_cases h0 : showR (rowAt S p a b c) = []
        · exact .inl h0
        · refine .inr fun heq => hg ?_
          have hok := ok_of_show h0
          have hu : S.drop p = showR (rowAt S p a b c) ++ (S.drop p).drop (e - p) := by
            rw [heq]; exact (List.take_append_drop _ _).symm
          rw [hu]
          exact good_show hok _
end Go.Proofs.YtakjjfbocokpaaaDoor
