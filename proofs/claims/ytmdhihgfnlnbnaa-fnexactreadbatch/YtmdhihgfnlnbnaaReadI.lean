/-
  Contracts of impl.claimedOps and ReadBatch.
-/
import Derived.Test.YtmdhihgfnlnbnaaCutO
import Derived.Test.YtmdhihgfnlnbnaaReadS
import Derived.Deep.DeepCutAuto
namespace Go.Proofs.Ytmdhihgfnlnbnaa
open Go.ChangeShapes Go.WideShapes Go.ChangeAt Go.RowKit

def OpsPost (w : World) (L : List Opn) (e : Ending) (w' : World) : Prop := ∃ v, e = .returned v ∧ elOp.Owns w.heap.size w' v L ∧ Below w.heap.size w w'
theorem cutN_snoc {n : Nat} {l : List UInt8} {X : List Opn} (h : X = cutO l :: cutN n (cutS l)) : X = cutN (n + 1) l := h
set_option maxHeartbeats 1000000 in
set_option maxRecDepth 20000 in
theorem claimedOps_any (s : ByteArray) (hm : s.size ≤ 1048576) (w : World) :
    Calls Try.prog 46 #[.string s] w (OpsPost w (claimL (bl s))) := by
  have HC := hide (fun W => iReadVar_any s W (by unfold maxLen; omega))
  unfold RvPost at HC
  obtain ⟨X, hX⟩ : ∃ X, X = claimL (bl s) := ⟨_, rfl⟩
  have HX := hide hX
  rw [← hX]
  unfold claimL at HX
  obtain ⟨x, n, hr⟩ : ∃ x n, readVarL (bl s) = (x, n) := ⟨_, _, rfl⟩
  obtain ⟨hx, hn⟩ := readVarL_le (bl s)
  rw [hr, bl_len] at hn
  rw [hr] at HC hx HX
  simp only at hx hn HC HX
  obtain ⟨y, hy⟩ : ∃ y, y = min x 6 := ⟨_, rfl⟩
  have hy6 : y ≤ 6 := by omega
  have hmin : min (x : Int) 6 = (y : Int) := by omega
  rw [← hy] at HX
  obtain ⟨s1, hs1⟩ : ∃ s1 : ByteArray, s1 = ⟨((bl s).drop n).toArray⟩ := ⟨_, rfl⟩
  have e1 : s.extract n s.size = s1 := by rw [hs1]; exact ext_drop s n
  have hl1 : s1.size ≤ 1048576 := by rw [hs1, size_of, List.length_drop, bl_len]; omega
  have b1 : bl s1 = (bl s).drop n := by rw [hs1]; rfl
  rw [← b1] at HX
  clear hs1 b1 hr hX hy hx
  go_enter Try.func46, Try.ntmps46
  go_wp2_with fail
  refine (HC.out _).mono ?_
  rintro e w1 ⟨rfl, hb1⟩
  have HB1 := hide hb1
  clear hb1 HC
  go_upto_region 4 with (fail)
  go_cut [16, 17] (fun a b wc => a = .int .i64 y ∧ b = .int .i64 0 ∧ w1 = wc)
  case first =>
    by_cases h6 : (6 : Int) < x
    · go_wp2_with fail
      go_meet
      case rel => exact ⟨by rw [show (y : Int) = 6 by omega], rfl, rfl⟩
    · go_wp2_with fail
      go_meet
      case rel => exact ⟨by rw [show (y : Int) = x by omega], rfl, rfl⟩
  case rest =>
  obtain ⟨rfl, rfl, rfl⟩ := hcut
  clear hmin
  go_wp2_with fail
  go_loopw [0, 5, 17] (fun z o i wr => ∃ (j : Nat) (t : ByteArray) (a' : Option Addr) (c' : Nat) (pre : List Opn), z = .string t ∧ o = .slice a' j c' ∧ i = .int .i64 j ∧ j ≤ y ∧ t.size ≤ 1048576 ∧ pre.length = j ∧ Hid (X = pre ++ cutN (y - j) (bl t)) ∧ Hid (elOp.Owns w.heap.size wr (.slice a' j c') pre) ∧ Hid (Below w.heap.size w wr)) (fun _ _ i _ => y - (intOf i).toNat)
  case atStart => exact ⟨0, s1, none, 0, [], rfl, rfl, rfl, by omega, hl1, rfl, HX, El.Owns.nil _ _, HB1⟩
  case round =>
    obtain ⟨j, t, a', c', pre, rfl, rfl, rfl, hj, ht, hpre, HXR, HO, HB⟩ := hrel
    have hs := HB.out.size
    by_cases hlt : j < y
    · obtain ⟨r, hr⟩ : ∃ r, y - j = r + 1 := ⟨y - j - 1, by omega⟩
      have HC := hide (fun W => cutOp_any t ht W)
      unfold CutOPost at HC
      rw [hr] at HXR
      have hcl := cutS_le (bl t)
      rw [bl_len] at hcl
      have HX2 := hide (show X = (pre ++ [cutO (bl t)]) ++ cutN (y - (j + 1)) (cutS (bl t)) by
        rw [HXR.out, show y - (j + 1) = r by omega, cutN]
        simp)
      obtain ⟨S1, hS1⟩ : ∃ S1, S1 = cutS (bl t) := ⟨_, rfl⟩
      obtain ⟨⟨k, d, v⟩, hO1⟩ : ∃ O1, O1 = cutO (bl t) := ⟨_, rfl⟩
      rw [← hS1, ← hO1] at HC HX2
      rw [← hS1] at hcl
      clear hS1 hO1 HXR
      go_wp2_with fail
      refine (HC.out _).mono ?_
      rintro e w2 ⟨rfl, hb2⟩
      have HBx := hide ((BoxV.new 62 wr #[.string ⟨#[]⟩, .bool false, .string ⟨#[]⟩]).below hb2 (by simp))
      have HB2 := hide ((HB.out.alloc hs _).trans (hb2.mono (by simp; omega)))
      have HO2 := hide ((HO.out.alloc (.cells #[.string ⟨#[]⟩, .bool false, .string ⟨#[]⟩] 62)).below hb2 (Nat.le_refl _))
      clear hb2
      obtain ⟨c0, c1, c2⟩ := HBx.out.three
      have z0 := HBx.out.frozen 0
      have z1 := HBx.out.frozen 1
      have z2 := HBx.out.frozen 2
      have hlt2 := HBx.out.lt
      have hne : ∀ i, (Value.slice a' j c').ownBlock = some i → i ≠ wr.heap.size := fun i hi => by have := (HO.out.lt i hi).2; omega
      have HO3 := hide (((HO2.out.set_ne (p := ⟨wr.heap.size, 0, none⟩) hne (.string k)).set_ne (p := ⟨wr.heap.size, 1, none⟩) hne (.bool d)).set_ne (p := ⟨wr.heap.size, 2, none⟩) hne (.string v))
      have HB3 := hide (((HB2.out.setCell (p := ⟨wr.heap.size, 0, none⟩) hs (.string k)).setCell (p := ⟨wr.heap.size, 1, none⟩) hs (.bool d)).setCell (p := ⟨wr.heap.size, 2, none⟩) hs (.string v))
      clear hne
      obtain ⟨W3, hW3⟩ : ∃ W3, W3 = ((w2.setCell ⟨wr.heap.size, 0, none⟩ (.string k)).setCell ⟨wr.heap.size, 1, none⟩ (.bool d)).setCell ⟨wr.heap.size, 2, none⟩ (.string v) := ⟨_, rfl⟩
      rw [← hW3] at HO3 HB3
      have hz3 : W3.heap.size = w2.heap.size := by rw [hW3]; simp
      have HOa := hide (HO3.out.alloc (.cells #[.string k, .bool d, .string v] 62))
      have HSa : Hid (elOp.Rd (W3.alloc (.cells #[.string k, .bool d, .string v] 62)) (W3.alloc (.cells #[.string k, .bool d, .string v] 62)).heap.size (some ⟨w2.heap.size, 0, none⟩) [(k, d, v)]) := by
        rw [← hz3]
        exact El.Holds.rd (El.Holds.new (e := elOp) W3 [(k, d, v)])
      have HBa := hide (HB3.out.alloc HB3.out.size (.cells #[.string k, .bool d, .string v] 62))
      have hBa : w.heap.size ≤ (W3.alloc (.cells #[.string k, .bool d, .string v] 62)).heap.size := HBa.out.size
      have hjl : (pre ++ [((k, d, v) : Opn)]).length = j + 1 := by rw [List.length_append, hpre]; rfl
      rw [hW3] at HOa HSa HBa hBa
      clear hW3 hz3 HO3 HB3
      go_wp2_with (at_builtin; refine El.append rfl (.tmp 24) (.tmp 26) 25 rfl Try.underlying25 _ _ infoOp rfl (by decide) (by decide) w.heap.size w _ _ (some ⟨w2.heap.size, 0, none⟩) 1 1 pre [(k, d, v)] rfl rfl rfl (fun h => by cases h) HOa HSa (fun p hp => ⟨_, _, (Option.some.inj hp).symm⟩) HBa hBa _ (j + 1) rfl hjl (by omega) ?_; intro a5 c5 w5 HO5 HB5 HG5 hz5)
      go_wp2_with fail
      go_roundw
      case rel => exact ⟨j + 1, ⟨S1.toArray⟩, a5, c5, _, rfl, rfl, by go_num, by omega, by rw [size_of]; omega, hjl, by rw [bl_of]; exact HX2, HO5, HB5⟩
      case measure => simp [intOf]; omega
    · obtain rfl : j = y := by omega
      rw [Nat.sub_self] at HXR
      have HX2 := hide (show X = pre by rw [HXR.out, cutN, List.append_nil])
      clear HXR
      go_wp2_with fail
      go_ret
      exact ⟨_, rfl, by rw [HX2.out]; exact HO.out, HB.out⟩

set_option maxHeartbeats 1000000 in
set_option maxRecDepth 20000 in
theorem iRead_any (s : ByteArray) (hm : s.size ≤ 1048576) (w : World) :
    Calls Try.prog 18 #[.string s] w (ReadBPost w (bl s)) := by
  have HC := hide (fun W => claimedOps_any s hm W)
  have HSH := hide (fun W b c (h : elOp.Rd W W.heap.size b (claimL (bl s))) => iShow_any b c (claimL (bl s)) W h (by have := length_claimL (bl s); omega))
  have HY := hide (fun h1 h2 => claim_yes (s := bl s) h1 h2)
  have HN := hide (fun h => claim_no (s := bl s) h)
  obtain ⟨X, hX⟩ : ∃ X, X = claimL (bl s) := ⟨_, rfl⟩
  rw [← hX] at HC HSH HY HN
  obtain ⟨VS, hVS⟩ : ∃ VS, VS = showL X := ⟨_, rfl⟩
  obtain ⟨n, hn⟩ : ∃ n, n = X.length := ⟨_, rfl⟩
  rw [← hVS, ← hn] at HSH
  rw [← hVS] at HY HN
  have HLN := hide hn
  clear hX hVS hn
  by_cases h0 : bl s = []
  · have HN1 := hide (HN.out (.inl h0))
    have hse : s.toList.isEmpty = true := by rw [ByteArray.toList_eq, List.isEmpty_iff]; exact h0
    clear h0 HN HY HSH
    go_enter Try.func18, Try.ntmps18
    go_wp2_with fail
    refine (HC.out _).mono ?_
    rintro e w1 ⟨v, rfl, ho, hb1⟩
    have HB1 := hide hb1
    clear hb1 ho
    go_wp2_with fail
    go_ret2
    exact ReadBPost.no HN1.out _ (El.Owns.nil _ _) HB1.out
  · have hse : s.toList.isEmpty = false := by rw [ByteArray.toList_eq, List.isEmpty_eq_false_iff]; exact h0
    have H0 := hide h0
    clear h0
    by_cases hsh : VS = bl s
    · have HN2 := hide (HY.out H0.out hsh)
      have hbe : (!(VS == s.toList)) = false := by rw [Bool.not_eq_false', beq_iff_eq, ByteArray.toList_eq]; exact hsh
      clear hsh HN HY
      go_enter Try.func18, Try.ntmps18
      go_wp2_with fail
      refine (HC.out _).mono ?_
      rintro e w1 ⟨v, rfl, ho, hb1⟩
      obtain ⟨a, c, rfl, hrd, _⟩ := ho.form
      have HB1 := hide hb1
      have HO1 := hide ho
      have HRD := hide hrd
      rw [← HLN.out] at HO1 ⊢
      clear hb1 ho hrd
      go_wp2_with fail
      refine (HSH.out _ _ _ HRD.out).mono ?_
      rintro e w2 ⟨rfl, hb2⟩
      have HB2 := hide (HB1.out.trans (hb2.mono HB1.out.size))
      have HO2 := hide (HO1.out.below hb2 (Nat.le_refl _))
      clear hb2
      go_wp2_with fail
      go_ret2
      exact ⟨_, by rw [HN2.out.2]; rfl, by rw [HN2.out.1]; exact HO2.out, HB2.out⟩
    · have HN1 := hide (HN.out (.inr hsh))
      have hbe : (!(VS == s.toList)) = true := by rw [ne_str hsh]; rfl
      clear hsh HN HY
      go_enter Try.func18, Try.ntmps18
      go_wp2_with fail
      refine (HC.out _).mono ?_
      rintro e w1 ⟨v, rfl, ho, hb1⟩
      obtain ⟨a, c, rfl, hrd, _⟩ := ho.form
      have HB1 := hide hb1
      have HRD := hide hrd
      rw [← HLN.out]
      clear hb1 ho hrd
      go_wp2_with fail
      refine (HSH.out _ _ _ HRD.out).mono ?_
      rintro e w2 ⟨rfl, hb2⟩
      have HB2 := hide (HB1.out.trans (hb2.mono HB1.out.size))
      clear hb2
      go_wp2_with fail
      go_ret2
      exact ReadBPost.no HN1.out _ (El.Owns.nil _ _) HB2.out
theorem readM_len (s : List UInt8) : (readM s).length ≤ 6 := by
  unfold readM
  split
  · next h => exact (isBat_ok h).2.1
  · simp
end Go.Proofs.Ytmdhihgfnlnbnaa
