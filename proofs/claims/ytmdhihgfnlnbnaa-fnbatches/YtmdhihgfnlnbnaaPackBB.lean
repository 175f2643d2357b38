/-
  Texts of this proof, put together: CutO, ReadI.
-/
import Derived.Test.YtmdhihgfnlnbnaaPackAU
import Derived.Test.YtmdhihgfnlnbnaaPackAP
import Derived.Deep.DeepCutAuto

/-
  Contract of impl.cutOp.
-/
namespace Go.Proofs.Ytmdhihgfnlnbnaa
open Go.ChangeShapes Go.WideShapes Go.ChangeAt Go.RowKit

theorem cutTR_nil : cutT [] = [] ∧ cutR [] = [] := by decide
theorem cutO_as (l : List UInt8) : (decide (l.take 1 = [1]) = true → cutO l = (⟨(cutT (l.drop 1)).toArray⟩, true, ⟨#[]⟩) ∧ cutS l = cutR (l.drop 1)) ∧
    (decide (l.take 1 = [1]) = false → cutO l = (⟨(cutT (l.drop 1)).toArray⟩, false, ⟨(cutT (cutR (l.drop 1))).toArray⟩) ∧ cutS l = cutR (cutR (l.drop 1))) := by
  by_cases h0 : l = []
  · subst h0
    exact ⟨fun h => absurd h (by decide), fun _ => by decide⟩
  · exact ⟨fun h => cutO_del h0 (of_decide_eq_true h), fun h => cutO_put h0 (of_decide_eq_false h)⟩
/-- behind some calls: the result's box still zero, the operation's box, nothing old turned -/
structure TwoO (w w' : World) (vs : Array Value) : Prop where
  a : BoxV 62 w' w.heap.size #[.string ⟨#[]⟩, .bool false, .string ⟨#[]⟩]
  b : BoxV 62 w' (w.heap.size + 1) vs
  below : Below w.heap.size w w'
theorem TwoO.step {B : Nat} {w w' w2 : World} {vs : Array Value} (h : TwoO w w' vs) (hb : Below B w' w2) (hB : w'.heap.size ≤ B) : TwoO w w2 vs :=
  ⟨h.a.below hb (Nat.lt_of_lt_of_le h.a.lt hB), h.b.below hb (Nat.lt_of_lt_of_le h.b.lt hB), h.below.trans (hb.mono (Nat.le_trans h.below.size hB))⟩
theorem TwoO.set {w w' : World} {vs : Array Value} (h : TwoO w w' vs) (i : Nat) (u : Value) : TwoO w (w'.setCell ⟨w.heap.size + 1, i, none⟩ u) (vs.setIfInBounds i u) :=
  ⟨h.a.set_other (p := ⟨w.heap.size + 1, i, none⟩) (by show w.heap.size + 1 ≠ w.heap.size; omega) u, h.b.set u, h.below.setCell (p := ⟨w.heap.size + 1, i, none⟩) (by show w.heap.size ≤ w.heap.size + 1; omega) u⟩

set_option maxHeartbeats 1000000 in
set_option maxRecDepth 20000 in
theorem cutOp_any (s : ByteArray) (hm : s.size ≤ 1048576) (w : World) :
    Calls Try.prog 80 #[.string s] w (CutOPost w (cutO (bl s)) (cutS (bl s))) := by
  obtain ⟨hdel, hput⟩ := cutO_as (bl s)
  have HC1 := hide (fun W => cutMark_any s W)
  unfold CutMPost at HC1
  obtain ⟨d, hd⟩ : ∃ d, d = decide ((bl s).take 1 = [1]) := ⟨_, rfl⟩
  rw [← hd] at HC1 hdel hput
  obtain ⟨l1, hl1⟩ : ∃ l1, l1 = (bl s).drop 1 := ⟨_, rfl⟩
  have k1 : l1.length ≤ s.size := by rw [hl1, List.length_drop, bl_len]; omega
  rw [← hl1] at HC1 hdel hput
  have HC2 := hide (fun W => cutText_any ⟨l1.toArray⟩ (by rw [size_of l1]; omega) W)
  unfold CutPost at HC2
  rw [bl_of l1] at HC2
  obtain ⟨r, hr⟩ : ∃ r, r = cutT l1 := ⟨_, rfl⟩
  obtain ⟨l2, hl2⟩ : ∃ l2, l2 = cutR l1 := ⟨_, rfl⟩
  have k2 : l2.length ≤ l1.length := by rw [hl2]; exact cutR_le _
  rw [← hr, ← hl2] at HC2 hdel hput
  have HC3 := hide (fun W => cutText_any ⟨l2.toArray⟩ (by rw [size_of l2]; omega) W)
  unfold CutPost at HC3
  rw [bl_of l2] at HC3
  have HT0 := hide (fun (w' : World) (h : Below ((w.alloc (.cells #[.string ⟨#[]⟩, .bool false, .string ⟨#[]⟩] 62)).alloc (.cells #[.string ⟨#[]⟩, .bool false, .string ⟨#[]⟩] 62)).heap.size ((w.alloc (.cells #[.string ⟨#[]⟩, .bool false, .string ⟨#[]⟩] 62)).alloc (.cells #[.string ⟨#[]⟩, .bool false, .string ⟨#[]⟩] 62)) w') => show TwoO w w' _ from by
    obtain ⟨h1, h2, h3⟩ := two_boxV h
    exact ⟨h1, h2, h3⟩)
  unfold CutOPost
  cases d with
  | true =>
    rw [(hdel rfl).1, (hdel rfl).2]
    clear hdel hput hd hl1 hr hl2 k1 k2
    go_enter Try.func80, Try.ntmps80
    go_wp2_with fail
    refine (HC1.out _).mono ?_
    rintro e w1 ⟨rfl, hb1⟩
    have HT1 := hide (HT0.out _ hb1)
    clear hb1 HT0
    have c1 := HT1.out.b.cell 1 _ rfl
    have z1 := HT1.out.b.frozen 1
    have hlt := HT1.out.b.lt
    go_wp2_with fail
    have HT2 := hide (HT1.out.set 1 (.bool true))
    clear c1 z1 hlt HT1
    refine (HC2.out _).mono ?_
    rintro e w2 ⟨rfl, hb2⟩
    have HT3 := hide (HT2.out.step hb2 (Nat.le_refl _))
    clear hb2 HT2
    have c0 := HT3.out.b.cell 0 _ rfl
    have z0 := HT3.out.b.frozen 0
    have hlt := HT3.out.b.lt
    go_upto_region 4 with (fail)
    have HT4 := hide (HT3.out.set 0 (.string ⟨r.toArray⟩))
    clear c0 z0 hlt HT3
    obtain ⟨W, hW⟩ : ∃ W, W = w2.setCell ⟨w.heap.size + 1, 0, none⟩ (.string ⟨r.toArray⟩) := ⟨_, rfl⟩
    rw [← hW] at HT4 ⊢
    clear hW
    have hB : BoxV 62 W (w.heap.size + 1) #[.string ⟨r.toArray⟩, .bool true, .string ⟨#[]⟩] := HT4.out.b
    obtain ⟨p0, p1, p2⟩ := hB.three
    obtain ⟨a0, a1, a2⟩ := HT4.out.a.three
    have y0 := HT4.out.a.frozen 0
    have y1 := HT4.out.a.frozen 1
    have y2 := HT4.out.a.frozen 2
    have hlt := HT4.out.a.lt
    clear hB
    go_wp2_with fail
    refine bodyPost_ret (res_op rfl _ _ w.heap.size rfl (((HT4.out.a.set _).set _).set _) _ rfl) rfl ?_
    exact ⟨rfl, ((HT4.out.below.setCell (p := ⟨w.heap.size, 0, none⟩) (by simp) _).setCell (p := ⟨w.heap.size, 1, none⟩) (by simp) _).setCell (p := ⟨w.heap.size, 2, none⟩) (by simp) _⟩
  | false =>
    rw [(hput rfl).1, (hput rfl).2]
    obtain ⟨v, hv⟩ : ∃ v, v = cutT l2 := ⟨_, rfl⟩
    obtain ⟨l3, hl3⟩ : ∃ l3, l3 = cutR l2 := ⟨_, rfl⟩
    rw [← hv, ← hl3] at HC3 ⊢
    clear hdel hput hd hl1 hr hl2 k1 k2 hv hl3
    go_enter Try.func80, Try.ntmps80
    go_wp2_with fail
    refine (HC1.out _).mono ?_
    rintro e w1 ⟨rfl, hb1⟩
    have HT1 := hide (HT0.out _ hb1)
    clear hb1 HT0
    have c1 := HT1.out.b.cell 1 _ rfl
    have z1 := HT1.out.b.frozen 1
    have hlt := HT1.out.b.lt
    go_wp2_with fail
    have HT2 := hide (HT1.out.set 1 (.bool false))
    clear c1 z1 hlt HT1
    refine (HC2.out _).mono ?_
    rintro e w2 ⟨rfl, hb2⟩
    have HT3 := hide (HT2.out.step hb2 (Nat.le_refl _))
    clear hb2 HT2
    have c0 := HT3.out.b.cell 0 _ rfl
    have z0 := HT3.out.b.frozen 0
    have hlt := HT3.out.b.lt
    go_upto_region 4 with (fail)
    have HT4 := hide (HT3.out.set 0 (.string ⟨r.toArray⟩))
    clear c0 z0 hlt HT3
    obtain ⟨W, hW⟩ : ∃ W, W = w2.setCell ⟨w.heap.size + 1, 0, none⟩ (.string ⟨r.toArray⟩) := ⟨_, rfl⟩
    rw [← hW] at HT4 ⊢
    clear hW
    have hB : BoxV 62 W (w.heap.size + 1) #[.string ⟨r.toArray⟩, .bool false, .string ⟨#[]⟩] := HT4.out.b
    obtain ⟨p0, p1, p2⟩ := hB.three
    clear hB
    go_wp2_with fail
    refine (HC3.out _).mono ?_
    rintro e w3 ⟨rfl, hb3⟩
    have HT5 := hide (HT4.out.step hb3 (Nat.le_refl _))
    clear hb3 HT4 p0 p1 p2
    have c2 := HT5.out.b.cell 2 _ rfl
    have z2 := HT5.out.b.frozen 2
    have hlt := HT5.out.b.lt
    go_upto_region 6 with (fail)
    have HT6 := hide (HT5.out.set 2 (.string ⟨v.toArray⟩))
    clear c2 z2 hlt HT5
    obtain ⟨W2, hW2⟩ : ∃ W2, W2 = w3.setCell ⟨w.heap.size + 1, 2, none⟩ (.string ⟨v.toArray⟩) := ⟨_, rfl⟩
    rw [← hW2] at HT6 ⊢
    clear hW2
    have hB : BoxV 62 W2 (w.heap.size + 1) #[.string ⟨r.toArray⟩, .bool false, .string ⟨v.toArray⟩] := HT6.out.b
    obtain ⟨p0, p1, p2⟩ := hB.three
    obtain ⟨a0, a1, a2⟩ := HT6.out.a.three
    have y0 := HT6.out.a.frozen 0
    have y1 := HT6.out.a.frozen 1
    have y2 := HT6.out.a.frozen 2
    have hlt := HT6.out.a.lt
    clear hB
    go_wp2_with fail
    refine bodyPost_ret (res_op rfl _ _ w.heap.size rfl (((HT6.out.a.set _).set _).set _) _ rfl) rfl ?_
    exact ⟨rfl, ((HT6.out.below.setCell (p := ⟨w.heap.size, 0, none⟩) (by simp) _).setCell (p := ⟨w.heap.size, 1, none⟩) (by simp) _).setCell (p := ⟨w.heap.size, 2, none⟩) (by simp) _⟩
end Go.Proofs.Ytmdhihgfnlnbnaa

/-
  Contracts of impl.claimedOps and ReadBatch.
-/
namespace Go.Proofs.Ytmdhihgfnlnbnaa
open Go.ChangeShapes Go.WideShapes Go.ChangeAt Go.RowKit

def OpsPost (w : World) (L : List Opn) (e : Ending) (w' : World) : Prop := ∃ v, e = .returned v ∧ elOp.Owns w.heap.size w' v L ∧ Below w.heap.size w w'
theorem cutN_snoc {n : Nat} {l : List UInt8} {X : List Opn} (h : X = cutO l :: cutN n (cutS l)) : X = cutN (n + 1) l := h
set_option maxHeartbeats 1000000 in
set_option maxRecDepth 20000 in
theorem claimedOps_any (s : ByteArray) (hm : s.size ≤ 1048576) (w : World) :
    Calls Try.prog 46 #[.string s] w (OpsPost w (claimL (bl s))) := by
  have HC := hide (fun W => iReadVar_any s W (by unfold maxLen; omega))
  unfold RvPost at HC
  obtain ⟨X, hX⟩ : ∃ X, X = claimL (bl s) := ⟨_, rfl⟩
  have HX := hide hX
  rw [← hX]
  unfold claimL at HX
  obtain ⟨x, n, hr⟩ : ∃ x n, readVarL (bl s) = (x, n) := ⟨_, _, rfl⟩
  obtain ⟨hx, hn⟩ := readVarL_le (bl s)
  rw [hr, bl_len] at hn
  rw [hr] at HC hx HX
  simp only at hx hn HC HX
  obtain ⟨y, hy⟩ : ∃ y, y = min x 6 := ⟨_, rfl⟩
  have hy6 : y ≤ 6 := by omega
  have hmin : min (x : Int) 6 = (y : Int) := by omega
  rw [← hy] at HX
  obtain ⟨s1, hs1⟩ : ∃ s1 : ByteArray, s1 = ⟨((bl s).drop n).toArray⟩ := ⟨_, rfl⟩
  have e1 : s.extract n s.size = s1 := by rw [hs1]; exact ext_drop s n
  have hl1 : s1.size ≤ 1048576 := by rw [hs1, size_of, List.length_drop, bl_len]; omega
  have b1 : bl s1 = (bl s).drop n := by rw [hs1]; rfl
  rw [← b1] at HX
  clear hs1 b1 hr hX hy hx
  go_enter Try.func46, Try.ntmps46
  go_wp2_with fail
  refine (HC.out _).mono ?_
  rintro e w1 ⟨rfl, hb1⟩
  have HB1 := hide hb1
  clear hb1 HC
  go_upto_region 4 with (fail)
  go_cut [16, 17] (fun a b wc => a = .int .i64 y ∧ b = .int .i64 0 ∧ w1 = wc)
  case first =>
    by_cases h6 : (6 : Int) < x
    · go_wp2_with fail
      go_meet
      case rel => exact ⟨by rw [show (y : Int) = 6 by omega], rfl, rfl⟩
    · go_wp2_with fail
      go_meet
      case rel => exact ⟨by rw [show (y : Int) = x by omega], rfl, rfl⟩
  case rest =>
  obtain ⟨rfl, rfl, rfl⟩ := hcut
  clear hmin
  go_wp2_with fail
  go_loopw [0, 5, 17] (fun z o i wr => ∃ (j : Nat) (t : ByteArray) (a' : Option Addr) (c' : Nat) (pre : List Opn), z = .string t ∧ o = .slice a' j c' ∧ i = .int .i64 j ∧ j ≤ y ∧ t.size ≤ 1048576 ∧ pre.length = j ∧ Hid (X = pre ++ cutN (y - j) (bl t)) ∧ Hid (elOp.Owns w.heap.size wr (.slice a' j c') pre) ∧ Hid (Below w.heap.size w wr)) (fun _ _ i _ => y - (intOf i).toNat)
  case atStart => exact ⟨0, s1, none, 0, [], rfl, rfl, rfl, by omega, hl1, rfl, HX, El.Owns.nil _ _, HB1⟩
  case round =>
    obtain ⟨j, t, a', c', pre, rfl, rfl, rfl, hj, ht, hpre, HXR, HO, HB⟩ := hrel
    have hs := HB.out.size
    by_cases hlt : j < y
    · obtain ⟨r, hr⟩ : ∃ r, y - j = r + 1 := ⟨y - j - 1, by omega⟩
      have HC := hide (fun W => cutOp_any t ht W)
      unfold CutOPost at HC
      rw [hr] at HXR
      have hcl := cutS_le (bl t)
      rw [bl_len] at hcl
      have HX2 := hide (show X = (pre ++ [cutO (bl t)]) ++ cutN (y - (j + 1)) (cutS (bl t)) by
        rw [HXR.out, show y - (j + 1) = r by omega, cutN]
        simp)
      obtain ⟨S1, hS1⟩ : ∃ S1, S1 = cutS (bl t) := ⟨_, rfl⟩
      obtain ⟨⟨k, d, v⟩, hO1⟩ : ∃ O1, O1 = cutO (bl t) := ⟨_, rfl⟩
      rw [← hS1, ← hO1] at HC HX2
      rw [← hS1] at hcl
      clear hS1 hO1 HXR
      go_wp2_with fail
      refine (HC.out _).mono ?_
      rintro e w2 ⟨rfl, hb2⟩
      have HBx := hide ((BoxV.new 62 wr #[.string ⟨#[]⟩, .bool false, .string ⟨#[]⟩]).below hb2 (by simp))
      have HB2 := hide ((HB.out.alloc hs _).trans (hb2.mono (by simp; omega)))
      have HO2 := hide ((HO.out.alloc (.cells #[.string ⟨#[]⟩, .bool false, .string ⟨#[]⟩] 62)).below hb2 (Nat.le_refl _))
      clear hb2
      obtain ⟨c0, c1, c2⟩ := HBx.out.three
      have z0 := HBx.out.frozen 0
      have z1 := HBx.out.frozen 1
      have z2 := HBx.out.frozen 2
      have hlt2 := HBx.out.lt
      have hne : ∀ i, (Value.slice a' j c').ownBlock = some i → i ≠ wr.heap.size := fun i hi => by have := (HO.out.lt i hi).2; omega
      have HO3 := hide (((HO2.out.set_ne (p := ⟨wr.heap.size, 0, none⟩) hne (.string k)).set_ne (p := ⟨wr.heap.size, 1, none⟩) hne (.bool d)).set_ne (p := ⟨wr.heap.size, 2, none⟩) hne (.string v))
      have HB3 := hide (((HB2.out.setCell (p := ⟨wr.heap.size, 0, none⟩) hs (.string k)).setCell (p := ⟨wr.heap.size, 1, none⟩) hs (.bool d)).setCell (p := ⟨wr.heap.size, 2, none⟩) hs (.string v))
      clear hne
      obtain ⟨W3, hW3⟩ : ∃ W3, W3 = ((w2.setCell ⟨wr.heap.size, 0, none⟩ (.string k)).setCell ⟨wr.heap.size, 1, none⟩ (.bool d)).setCell ⟨wr.heap.size, 2, none⟩ (.string v) := ⟨_, rfl⟩
      rw [← hW3] at HO3 HB3
      have hz3 : W3.heap.size = w2.heap.size := by rw [hW3]; simp
      have HOa := hide (HO3.out.alloc (.cells #[.string k, .bool d, .string v] 62))
      have HSa : Hid (elOp.Rd (W3.alloc (.cells #[.string k, .bool d, .string v] 62)) (W3.alloc (.cells #[.string k, .bool d, .string v] 62)).heap.size (some ⟨w2.heap.size, 0, none⟩) [(k, d, v)]) := by
        rw [← hz3]
        exact El.Holds.rd (El.Holds.new (e := elOp) W3 [(k, d, v)])
      have HBa := hide (HB3.out.alloc HB3.out.size (.cells #[.string k, .bool d, .string v] 62))
      have hBa : w.heap.size ≤ (W3.alloc (.cells #[.string k, .bool d, .string v] 62)).heap.size := HBa.out.size
      have hjl : (pre ++ [((k, d, v) : Opn)]).length = j + 1 := by rw [List.length_append, hpre]; rfl
      rw [hW3] at HOa HSa HBa hBa
      clear hW3 hz3 HO3 HB3
      go_wp2_with (at_builtin; refine El.append rfl (.tmp 24) (.tmp 26) 25 rfl Try.underlying25 _ _ infoOp rfl (by decide) (by decide) w.heap.size w _ _ (some ⟨w2.heap.size, 0, none⟩) 1 1 pre [(k, d, v)] rfl rfl rfl (fun h => by cases h) HOa HSa (fun p hp => ⟨_, _, (Option.some.inj hp).symm⟩) HBa hBa _ (j + 1) rfl hjl (by omega) ?_; intro a5 c5 w5 HO5 HB5 HG5 hz5)
      go_wp2_with fail
      go_roundw
      case rel => exact ⟨j + 1, ⟨S1.toArray⟩, a5, c5, _, rfl, rfl, by go_num, by omega, by rw [size_of]; omega, hjl, by rw [bl_of]; exact HX2, HO5, HB5⟩
      case measure => simp [intOf]; omega
    · obtain rfl : j = y := by omega
      rw [Nat.sub_self] at HXR
      have HX2 := hide (show X = pre by rw [HXR.out, cutN, List.append_nil])
      clear HXR
      go_wp2_with fail
      go_ret
      exact ⟨_, rfl, by rw [HX2.out]; exact HO.out, HB.out⟩

set_option maxHeartbeats 1000000 in
set_option maxRecDepth 20000 in
theorem iRead_any (s : ByteArray) (hm : s.size ≤ 1048576) (w : World) :
    Calls Try.prog 18 #[.string s] w (ReadBPost w (bl s)) := by
  have HC := hide (fun W => claimedOps_any s hm W)
  have HSH := hide (fun W b c (h : elOp.Rd W W.heap.size b (claimL (bl s))) => iShow_any b c (claimL (bl s)) W h (by have := length_claimL (bl s); omega))
  have HY := hide (fun h1 h2 => claim_yes (s := bl s) h1 h2)
  have HN := hide (fun h => claim_no (s := bl s) h)
  obtain ⟨X, hX⟩ : ∃ X, X = claimL (bl s) := ⟨_, rfl⟩
  rw [← hX] at HC HSH HY HN
  obtain ⟨VS, hVS⟩ : ∃ VS, VS = showL X := ⟨_, rfl⟩
  obtain ⟨n, hn⟩ : ∃ n, n = X.length := ⟨_, rfl⟩
  rw [← hVS, ← hn] at HSH
  rw [← hVS] at HY HN
  have HLN := hide hn
  clear hX hVS hn
  by_cases h0 : bl s = []
  · have HN1 := hide (HN.out (.inl h0))
    have hse : s.toList.isEmpty = true := by rw [ByteArray.toList_eq, List.isEmpty_iff]; exact h0
    clear h0 HN HY HSH
    go_enter Try.func18, Try.ntmps18
    go_wp2_with fail
    refine (HC.out _).mono ?_
    rintro e w1 ⟨v, rfl, ho, hb1⟩
    have HB1 := hide hb1
    clear hb1 ho
    go_wp2_with fail
    go_ret2
    exact ReadBPost.no HN1.out _ (El.Owns.nil _ _) HB1.out
  · have hse : s.toList.isEmpty = false := by rw [ByteArray.toList_eq, List.isEmpty_eq_false_iff]; exact h0
    have H0 := hide h0
    clear h0
    by_cases hsh : VS = bl s
    · have HN2 := hide (HY.out H0.out hsh)
      have hbe : (!(VS == s.toList)) = false := by rw [Bool.not_eq_false', beq_iff_eq, ByteArray.toList_eq]; exact hsh
      clear hsh HN HY
      go_enter Try.func18, Try.ntmps18
      go_wp2_with fail
      refine (HC.out _).mono ?_
      rintro e w1 ⟨v, rfl, ho, hb1⟩
      obtain ⟨a, c, rfl, hrd, _⟩ := ho.form
      have HB1 := hide hb1
      have HO1 := hide ho
      have HRD := hide hrd
      rw [← HLN.out] at HO1 ⊢
      clear hb1 ho hrd
      go_wp2_with fail
      refine (HSH.out _ _ _ HRD.out).mono ?_
      rintro e w2 ⟨rfl, hb2⟩
      have HB2 := hide (HB1.out.trans (hb2.mono HB1.out.size))
      have HO2 := hide (HO1.out.below hb2 (Nat.le_refl _))
      clear hb2
      go_wp2_with fail
      go_ret2
      exact ⟨_, by rw [HN2.out.2]; rfl, by rw [HN2.out.1]; exact HO2.out, HB2.out⟩
    · have HN1 := hide (HN.out (.inr hsh))
      have hbe : (!(VS == s.toList)) = true := by rw [ne_str hsh]; rfl
      clear hsh HN HY
      go_enter Try.func18, Try.ntmps18
      go_wp2_with fail
      refine (HC.out _).mono ?_
      rintro e w1 ⟨v, rfl, ho, hb1⟩
      obtain ⟨a, c, rfl, hrd, _⟩ := ho.form
      have HB1 := hide hb1
      have HRD := hide hrd
      rw [← HLN.out]
      clear hb1 ho hrd
      go_wp2_with fail
      refine (HSH.out _ _ _ HRD.out).mono ?_
      rintro e w2 ⟨rfl, hb2⟩
      have HB2 := hide (HB1.out.trans (hb2.mono HB1.out.size))
      clear hb2
      go_wp2_with fail
      go_ret2
      exact ReadBPost.no HN1.out _ (El.Owns.nil _ _) HB2.out
theorem readM_len (s : List UInt8) : (readM s).length ≤ 6 := by
  unfold readM
  split
  · next h => exact (isBat_ok h).2.1
  · simp
end Go.Proofs.Ytmdhihgfnlnbnaa
