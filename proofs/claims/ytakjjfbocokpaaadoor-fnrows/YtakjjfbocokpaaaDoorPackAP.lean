/-
  Texts of this proof, put together: ReadVarS, VarsS.
-/
import Derived.Test.YtakjjfbocokpaaaDoorPackAM
import Derived.Test.YtakjjfbocokpaaaDoorPackAG
import Derived.Deep.RegionWith
import Derived.Test.YtakjjfbocokpaaaDoorPackAA
import Derived.Test.YtakjjfbocokpaaaDoorPackAN

/-
  Contract of spec.ReadVar.
-/
namespace Go.Proofs.YtakjjfbocokpaaaDoor
open Go.ChangeShapes Go.WideShapes Go.ChangeAt Go.RowKit

set_option maxRecDepth 20000 in
theorem sReadVar_any (s : ByteArray) (w : World) (hm : s.size ≤ maxLen) :
    Calls Tryd.prog 100 #[.string s] w (RvPost w s) := by
  unfold maxLen at hm
  go_enter Tryd.func100, Tryd.ntmps100
  go_wp2
  go_loopw [4, 5, 6] (fun k _ _ wr => ∃ j : Nat, j ≤ 7 ∧ j ≤ s.size ∧ k = .int .i64 ((j + 1 : Nat) : Int) ∧ Hid (∀ t, t < (bl s).length → t < j → varL (le7 ((bl s).take (t + 1))) ≠ (bl s).take (t + 1)) ∧ Hid (Below w.heap.size w wr)) (fun k _ _ _ => 8 - (intOf k).toNat)
  case atStart => exact ⟨0, by omega, by omega, rfl, fun t _ h => by omega, Below.refl _ _⟩
  case round =>
    obtain ⟨j, hj7, hjs, rfl, HA, HB⟩ := hrel
    by_cases hlt : j < 7 ∧ j < s.size
    · obtain ⟨hl7, hls⟩ := hlt
      have hd13 : decide ((j : Int) + 1 ≤ (s.size : Int)) = true := decide_eq_true (by omega)
      have HP : Hid (∀ q, q < j + 1 → ∀ hq : q < s.size, ((bl s).take (j + 1)).drop q = s[q] :: ((bl s).take (j + 1)).drop (q + 1)) := by
        intro q hq hqs
        rw [List.drop_eq_getElem_cons (by rw [List.length_take, bl_len]; omega), List.getElem_take, bl_at s q hqs]
      go_wp2
      go_loop [5, 6] (fun n i => ∃ p : Nat, p ≤ j + 1 ∧ i = .int .i64 ((p : Int) - 1) ∧ n = .int .i64 (le7 (((bl s).take (j + 1)).drop p) : Nat)) (fun _ i => ((intOf i) + 1).toNat)
      case atStart => exact ⟨j + 1, by omega, by go_num, by rw [List.drop_of_length_le (by rw [List.length_take]; omega)]; rfl⟩
      case round =>
        obtain ⟨p, hp, rfl, rfl⟩ := hrel
        cases p with
        | zero =>
          rw [List.drop_zero]
          have HM := hide (le7_take_lt (bl s) (j + 1) (by omega))
          by_cases hv : varL (le7 ((bl s).take (j + 1))) = (bl s).take (j + 1)
          · have HG := hide (readVarL_good (l := bl s) (k := j) (by rw [bl_len]; exact hls) hl7 hv)
            have ht : (varL (le7 (List.take (j + 1) (bl s))) == (s.extract 0 (j + 1)).toList) = true := by rw [bl_extract, beq_iff_eq]; exact hv
            clear hv
            go_wp2
            go_region_with (go_at_call 83; refine (sVar_yes _ _ HM.out).mono ?_; rintro e w' ⟨rfl, hb'⟩; have HB' := hide hb'; clear hb')
            all_goals (try go_wp2)
            all_goals go_ret2
            all_goals exact rvPost_of HG.out rfl (HB.out.drew.trans (HB'.out.mono HB.out.size))
          · have HN := hide hv
            have ht : (varL (le7 (List.take (j + 1) (bl s))) == (s.extract 0 (j + 1)).toList) = false := by rw [bl_extract, beq_eq_false_iff_ne]; exact hv
            clear hv
            go_wp2
            go_region_with (go_at_call 83; refine (sVar_yes _ _ HM.out).mono ?_; rintro e w' ⟨rfl, hb'⟩; have HB' := hide hb'; clear hb')
            all_goals (try go_wp2)
            all_goals
              go_roundw
              case rel =>
                refine ⟨j + 1, by omega, by omega, by go_num, fun t ht htj => ?_, HB.out.drew.trans (HB'.out.mono HB.out.size)⟩
                by_cases htj' : t < j
                · exact HA.out t ht htj'
                · obtain rfl : t = j := by omega
                  exact HN.out
              case measure => simp [intOf]; omega
        | succ q =>
          have hqs : q < s.size := by omega
          have HD := hide (HP.out q (by omega) hqs)
          have hbd := le7_drop_lt (bl s) j q hl7
          have hc : (s[q]'hqs).toNat < 256 := (s[q]'hqs).toNat_lt
          go_wp2
          go_round
          case rel => exact ⟨q, by omega, rfl, by rw [HD.out, le7]; go_num⟩
          case measure => simp [intOf]
    · have HR := hide (readVarL_bad (l := bl s) (fun t ht ht7 => HA.out t ht (by rw [bl_len] at ht; omega)))
      by_cases h7 : j < 7
      · have hd13 : decide ((j : Int) + 1 ≤ (s.size : Int)) = false := decide_eq_false (by omega)
        have hd8 : decide ((j : Int) + 1 ≤ 7) = true := decide_eq_true (by omega)
        go_wp2
        go_ret2
        exact rvPost_of HR.out rfl HB.out
      · have hd8 : decide ((j : Int) + 1 ≤ 7) = false := decide_eq_false (by omega)
        go_wp2
        go_ret2
        exact rvPost_of HR.out rfl HB.out
end Go.Proofs.YtakjjfbocokpaaaDoor

/-
  Contract of spec.l6Vars: so many varints, from whatever place on.
-/
namespace Go.Proofs.YtakjjfbocokpaaaDoor
open Go.ChangeShapes Go.WideShapes Go.ChangeAt Go.RowKit

theorem OwnsW.below {B C : Nat} {w w' : World} {v : Value} {L : List Nat} (h : OwnsW B w v L) (hb : Below C w w') (hC : w.heap.size ≤ C) : OwnsW B w' v L := by
  obtain ⟨hl, ⟨rfl, h0⟩ | ⟨g, cap, cur, rfl, hg, hh, r⟩⟩ := h
  · exact ⟨hl, .inl ⟨rfl, h0⟩⟩
  · refine ⟨hl, .inr ⟨g, cap, cur, rfl, hg, ?_, r⟩⟩
    rw [hb.block g (Nat.lt_of_lt_of_le (Array.getElem?_eq_some_iff.1 hh).1 hC)]
    exact hh
def VarsPost (w : World) (L : List Nat) (q : Int) (e : Ending) (w' : World) : Prop :=
  ∃ v, e = .returned (.tuple #[v, .int .i64 q]) ∧ OwnsW w.heap.size w' v L ∧ Below w.heap.size w w'

set_option maxHeartbeats 1000000 in
set_option maxRecDepth 20000 in
theorem l6Vars_any (s : ByteArray) (hm : s.size ≤ 1099511627775) (p n : Int) (hn : n ≤ 9223372036854775807) (w : World) :
    Calls Tryd.prog 70 #[.string s, .int .i64 p, .int .i64 n] w (VarsPost w (varsF (bl s) n.toNat p).1 (varsF (bl s) n.toNat p).2) := by
  obtain ⟨L, hL⟩ : ∃ L, L = (varsF (bl s) n.toNat p).1 := ⟨_, rfl⟩
  obtain ⟨q, hq⟩ : ∃ q, q = (varsF (bl s) n.toNat p).2 := ⟨_, rfl⟩
  have HLq := hide (And.intro hL hq)
  rw [← hL, ← hq]
  clear hL hq
  go_enter Tryd.func70, Tryd.ntmps70
  go_wp2
  go_loopw [1, 8, 9, 10, 11] (fun a v i _ _ wr => ∃ (j : Nat) (P : Int) (pre : List Nat), j ≤ n.toNat ∧ a = .int .i64 P ∧ i = .int .i64 (j : Int) ∧ (pre.length : Int) ≤ 1099511627776 ∧
      Hid (pre = [] ∨ (pre.length : Int) ≤ P) ∧ Hid (L = pre ++ (varsF (bl s) (n.toNat - j) P).1 ∧ q = (varsF (bl s) (n.toNat - j) P).2) ∧ Hid (OwnsW w.heap.size wr v pre) ∧ Hid (Below w.heap.size w wr) ∧ w.heap.size ≤ wr.heap.size)
    (fun _ _ i _ _ _ => n.toNat - (intOf i).toNat)
  case atStart =>
    exact ⟨0, p, [], by omega, rfl, rfl, by simp, Or.inl rfl, HLq.out, OwnsW.lit w.heap.size w [] (Nat.le_refl _) (by simp), (Below.refl _ _).alloc (Nat.le_refl _) _, by simp⟩
  case round =>
    obtain ⟨j, P, pre, hj, rfl, rfl, hpl, HPre, HQ, HO, HB, hsz⟩ := hrel
    by_cases hjn : (j : Int) < n
    · have hd : decide ((j : Int) < n) = true := decide_eq_true hjn
      obtain ⟨r, hr⟩ : ∃ r, n.toNat - j = r + 1 := ⟨n.toNat - j - 1, by omega⟩
      have hr2 : n.toNat - (j + 1) = r := by omega
      rw [hr] at HQ
      by_cases h0 : P < 0
      · have HV := hide (varsF_out (bl s) r P (Or.inl h0))
        have HE := hide HQ.out
        rw [HV.out] at HE
        have hd0 : decide (P < 0) = true := decide_eq_true h0
        clear HQ HPre
        go_wp2
        go_ret2
        exact ⟨_, by rw [HE.out.2]; rfl, by rw [HE.out.1, List.append_nil]; exact HO.out, HB.out⟩
      · have hd0 : decide (P < 0) = false := decide_eq_false h0
        by_cases h1 : (s.size : Int) < P
        · have HV := hide (varsF_out (bl s) r P (Or.inr (by rw [bl_len]; exact h1)))
          have HE := hide HQ.out
          rw [HV.out] at HE
          have hd1 : decide ((s.size : Int) < P) = true := decide_eq_true h1
          clear HQ HPre
          go_wp2
          go_ret2
          exact ⟨_, by rw [HE.out.2]; rfl, by rw [HE.out.1, List.append_nil]; exact HO.out, HB.out⟩
        · have hd1 : decide ((s.size : Int) < P) = false := decide_eq_false h1
          obtain ⟨m, rfl⟩ : ∃ m : Nat, P = m := ⟨P.toNat, by omega⟩
          have hms : m ≤ s.size := by omega
          have hml : m ≤ (bl s).length := by rw [bl_len]; exact hms
          obtain ⟨s2, hs2⟩ : ∃ s2 : ByteArray, s2 = ⟨((bl s).drop m).toArray⟩ := ⟨_, rfl⟩
          have ec : s.extract m s.size = s2 := by rw [hs2]; exact ext_drop s m
          have HR2 := hide (fun W => sReadVar_any s2 W (by rw [hs2, size_of, List.length_drop, bl_len]; unfold maxLen; omega))
          unfold RvPost at HR2
          obtain ⟨x, hx⟩ : ∃ x, x = (readVarL ((bl s).drop m)).1 := ⟨_, rfl⟩
          obtain ⟨k, hk⟩ : ∃ k, k = (readVarL ((bl s).drop m)).2 := ⟨_, rfl⟩
          have hk7 : k ≤ (bl s).length - m := by
            have := (readVarL_le ((bl s).drop m)).2
            rw [List.length_drop] at this
            omega
          rw [bl_len] at hk7
          rw [show (readVarL (bl s2)).1 = x by rw [hx, hs2]; rfl, show (readVarL (bl s2)).2 = k by rw [hk, hs2]; rfl] at HR2
          clear hs2
          by_cases hk0 : k = 0
          · have HV := hide (varsF_none (bl s) r m hml (by rw [← hk]; exact hk0))
            have HE := hide HQ.out
            rw [HV.out] at HE
            subst hk0
            clear HQ HPre hx hk hml
            go_wp2_with (go_at_call 100; refine (HR2.out _).mono ?_; rintro e w1 ⟨rfl, hb1⟩; have HB1 := hide (HB.out.trans (hb1.mono hsz)); have HO1 := hide (HO.out.below hb1 (Nat.le_refl _)); clear hb1)
            go_ret2
            exact ⟨_, by rw [HE.out.2]; rfl, by rw [HE.out.1, List.append_nil]; exact HO1.out, HB1.out⟩
          · have HV := hide (varsF_step (bl s) r m hml (by rw [← hk]; exact hk0))
            rw [← hx, ← hk] at HV
            have HE := hide HQ.out
            rw [HV.out] at HE
            have HF := hide (show L = (pre ++ [x]) ++ (varsF (bl s) r ((m + k : Nat) : Int)).1 by rw [HE.out.1, List.append_assoc]; rfl)
            have hpm : (pre.length : Int) ≤ (m : Int) := by
              rcases HPre.out with rfl | h
              · simp
              · exact h
            have hke : ((k : Int) == 0) = false := by rw [beq_eq_false_iff_ne]; omega
            have C1 := hide (show #[Value.int .i64 (x : Int)] = (wordVals .i64 [x]).toArray from rfl)
            clear HQ HPre hx hk hml HV
            go_wp2_with (first
              | (go_at_call 100; refine (HR2.out _).mono ?_; rintro e w1 ⟨rfl, hb1⟩; have HB1 := hide (HB.out.trans (hb1.mono hsz)); have HO1 := hide (HO.out.below hb1 (Nat.le_refl _)); have hsz1 := HB1.out.size; clear hb1)
              | (at_builtin; refine appendW rfl (.tmp 37) (.tmp 39) rfl w.heap.size w w1 _ pre [x] 1 _ rfl rfl HO1 HB1 hsz1 C1.out rfl (by omega) ?_; intro v' w' HO' HB' hsz'))
            go_roundw
            case rel => exact ⟨j + 1, ((m + k : Nat) : Int), pre ++ [x], by omega, by go_num, by go_num, by rw [List.length_append]; simp; omega, Or.inr (by rw [List.length_append]; simp; omega), by rw [hr2]; exact ⟨HF.out, HE.out.2⟩, HO', HB', by omega⟩
            case measure => simp [intOf]; omega
    · have hd : decide ((j : Int) < n) = false := decide_eq_false hjn
      have hr : n.toNat - j = 0 := by omega
      rw [hr, varsF_zero] at HQ
      go_wp2
      go_ret2
      exact ⟨_, by rw [HQ.out.2]; rfl, by rw [HQ.out.1, List.append_nil]; exact HO.out, HB.out⟩
end Go.Proofs.YtakjjfbocokpaaaDoor
