/-
  Texts of this proof, put together: LawKeys.
-/
import Derived.Test.YtakjjfbocokpaaaDoorPackAF
import Derived.Test.YtakjjfbocokpaaaDoorPackAT
import Derived.Test.YtakjjfbocokpaaaDoorPackBC
import Derived.Test.YtakjjfbocokpaaaDoorPackBD
import Derived.Test.YtakjjfbocokpaaaDoorPackAH

/-
  The walk of laws.FnKeys: it returns true.
-/
namespace Go.Proofs.YtakjjfbocokpaaaDoor
open Go.ChangeShapes Go.WideShapes Go.ChangeAt Go.RowKit

theorem own_rd {B n c : Nat} {w : World} {a : Option Addr} {L : List Slot} (h : OwnsS B w (.slice a n c) L) : n = L.length ∧ SlotRd w w.heap.size a L := by
  obtain ⟨a1, c1, e, hr, _⟩ := h.form
  simp only [Value.slice.injEq] at e
  obtain ⟨rfl, rfl, rfl⟩ := e
  exact ⟨rfl, hr⟩

theorem ne_none {k : ByteArray} (h : k.size = 32) : (k.toList == []) = false := by
  rw [beq_eq_false_iff_ne, ByteArray.toList_eq]
  intro e
  have := congrArg List.length e
  rw [Array.length_toList] at this
  have : k.size = 0 := this
  omega
/-- as DevBPost, over letters -/
def DevLPost (w : World) (rm : ByteArray) (RL : List Slot) (rx : Int) (rk : Bool) (e : Ending) (w' : World) : Prop :=
  ∃ (a5 : Option Addr) (c5 : Nat), e = .returned (.tuple #[.agg #[.string rm, .slice a5 RL.length c5, .int .i64 rx], .bool rk]) ∧ OwnsS w.heap.size w' (.slice a5 RL.length c5) RL ∧ Below w.heap.size w w'
theorem DevBPost.letters {w : World} {R : DevR} {e : Ending} {w' : World} (h : DevBPost w R e w') : DevLPost w R.m R.L R.x R.ok e w' := by
  obtain ⟨v, rfl, ho, hb⟩ := h
  obtain ⟨a5, c5, rfl, _⟩ := ho.form
  exact ⟨a5, c5, rfl, ho, hb⟩
theorem wipe_letters (md : ByteArray) (L : List Slot) (x t : Int) (hl : L.length ≤ 5) : ∃ (rm : ByteArray) (RL : List Slot) (rx : Int) (rk : Bool), RL.length ≤ 5 ∧ (rk = true → keyOfV rm RL rx t = noKey ∧ (keyOfV md L x t).size = 32 ∧ rx = x + 1 ∧ 0 ≤ x ∧ x ≤ 1000000) ∧
    (∀ B v W, OwnsS B W v L → Calls Tryd.prog 18 #[.agg #[.string md, v, .int .i64 x], .int .i64 t] W (DevLPost W rm RL rx rk)) ∧
    (∀ B v W, OwnsS B W v L → Calls Tryd.prog 19 #[.agg #[.string md, v, .int .i64 x], .int .i64 t] W (DevLPost W rm RL rx rk)) := by
  refine ⟨(wipeV md L x t).m, (wipeV md L x t).L, (wipeV md L x t).x, (wipeV md L x t).ok, Nat.le_trans (length_wipeV md L x t) hl, fun h => ⟨wipe_gone h, wipe_had h, wipe_x h⟩, fun B v W h => ?_, fun B v W h => ?_⟩
  · exact (iKeyWipe_any B md v L x t W h (by omega)).mono fun e w' hp => hp.letters
  · exact (sKeyWipe_any B md v L x t W h (by omega)).mono fun e w' hp => hp.letters
theorem add_letters (md : ByteArray) (L : List Slot) (x t : Int) (k : ByteArray) (hl : L.length ≤ 5) : ∃ (rm : ByteArray) (RL : List Slot) (rx : Int) (rk : Bool), RL.length ≤ 6 ∧ (rk = true → keyOfV rm RL rx t = k ∧ devOkB rm RL rx = true) ∧ (rk = false → devOkB md L x = true → rm = md ∧ RL = L ∧ rx = x) ∧
    (∀ B v W, OwnsS B W v L → Calls Tryd.prog 21 #[.agg #[.string md, v, .int .i64 x], .int .i64 t, .string k] W (DevLPost W rm RL rx rk)) ∧
    (∀ B v W, OwnsS B W v L → Calls Tryd.prog 22 #[.agg #[.string md, v, .int .i64 x], .int .i64 t, .string k] W (DevLPost W rm RL rx rk)) := by
  refine ⟨(addV md L x t k).m, (addV md L x t k).L, (addV md L x t k).x, (addV md L x t k).ok, by have := length_addV md L x t k; omega, fun h => ⟨add_key h, add_valid h⟩, fun h hd => ?_, fun B v W h => ?_, fun B v W h => ?_⟩
  · rw [add_same hd h]; exact ⟨rfl, rfl, rfl⟩
  · exact (iKeyAdd_any B md v L x t k W h (by omega)).mono fun e w' hp => hp.letters
  · exact (sKeyAdd_any B md v L x t k W h (by omega)).mono fun e w' hp => hp.letters

set_option maxHeartbeats 4000000 in
set_option maxRecDepth 100000 in
theorem keys_core (a : Option Addr) (cap : Nat) (bs : List Int) (w : World) (hc : CodeAt w.heap.size w a bs) (h0 : 1 < w.heap.size) (hT : Hid (CrcTabIn w)) :
    Calls Tryd.prog 3 #[.slice a bs.length cap] w fun e w' => e = .returned (.bool true) ∧ Below w.heap.size w w' := by
  have HC := hide hc
  clear hc
  go_enter Tryd.func3, Tryd.ntmps3
  go_wp2_with fail
  refine (big_any a bs.length cap w).mono ?_
  rintro e w0 ⟨rfl, rfl⟩
  by_cases hbig : (1048576 : Int) < (bs.length : Int)
  · have hd : decide ((1048576 : Int) < (bs.length : Int)) = true := decide_eq_true hbig
    rw [hd]
    clear hd hbig
    go_wp2_with fail
    go_ret
    exact ⟨rfl, Below.refl _ _⟩
  have hd : decide ((1048576 : Int) < (bs.length : Int)) = false := decide_eq_false hbig
  rw [hd]
  have HM := hide (show bs.length ≤ 1048576 by omega)
  clear hd hbig
  go_wp2_with fail
  refine (drawUnwrap_any a cap bs w0 (Nat.le_refl _) HC.out HM.out).mono ?_
  rintro e w1 ⟨m, s, n, rfl, hb1⟩
  have HB1 := hide hb1
  have hs1 := hb1.size
  clear hb1
  go_wp2_with fail
  refine (iUnwrap_any m s n w1 (by omega) (hide (hT.out.below HB1.out h0))).mono ?_
  rintro e w2 ⟨rfl, hb2⟩
  have HB2 := hide (HB1.out.trans (hb2.mono hs1))
  have hs2 := HB2.out.size
  clear hb2 HB1 hs1
  go_wp2_with fail
  refine (sUnwrap_any m s n w2).mono ?_
  rintro e w3 ⟨rfl, hb3⟩
  have HB3 := hide (HB2.out.trans (hb3.mono hs2))
  have hs3 := HB3.out.size
  have HU := hide (fun h => wrap_un (m := bl m) (n := n) (s := bl s) h)
  clear hb3 HB2 hs2
  generalize unKey (bl m) n (bl s) = uk at *
  generalize unB (bl m) n (bl s) = ub at *
  go_upto_region 6 with (fail)
  go_cut [58] from 23 (fun s58 wc => s58 = .bool false ∧ Hid (Below w0.heap.size w0 wc))
  case first =>
    cases ub with
    | false =>
      go_wp2_with fail
      go_meet
      exact ⟨rfl, HB3⟩
    | true =>
      have HV := hide (HU.out rfl)
      go_wp2_with fail
      refine (iWrap_any m ⟨uk.toArray⟩ n w3 (by omega) (hide (hT.out.below HB3.out h0))).mono ?_
      rw [show wrapV (bl m) n (bl ⟨uk.toArray⟩) = bl s from HV.out]
      rintro e w4 ⟨he, hb4⟩
      rw [str_of] at he
      subst he
      have HB4 := hide (HB3.out.trans (hb4.mono hs3))
      clear hb4
      go_wp2_with fail
      go_meet
      exact ⟨rfl, HB4⟩
  case rest =>
    obtain ⟨rfl, HBc⟩ := hcut
    have hsc := HBc.out.size
    clear HB3 hs3 HU hT
    go_wp2_with fail
    refine (drawKeyWipe_any a cap bs wc hsc (HC.out.keep fun k hk => HBc.out.block k hk) HM.out).mono ?_
    rintro e w4 ⟨md, a4, n4, c4, L, x, t, rfl, ho4, hl4, hb4⟩
    obtain ⟨rfl, _⟩ := own_rd ho4
    have HL := hide hl4
    obtain ⟨rm, RL, rx, rk, hRl, hRf, hRi, hRs⟩ := wipe_letters md L x t hl4
    have HRl := hide hRl
    have HRf := hide hRf
    have HRi := hide hRi
    have HRs := hide hRs
    clear hRl hRf hRi hRs hl4
    obtain ⟨W4, hW4⟩ : ∃ W4, W4 = w4.alloc (.cells #[.string md, .slice a4 L.length c4, .int .i64 x] 31) := ⟨_, rfl⟩
    have HB4 := hide (show Below w0.heap.size w0 W4 from hW4 ▸ (HBc.out.trans (hb4.mono hsc)).alloc (Nat.le_trans hsc hb4.size) _)
    have HD4 := hide (show BoxB 31 W4 w4.heap.size (.string md) (.slice a4 L.length c4) (.int .i64 x) from hW4 ▸ BoxB.new _ w4 _ _ _)
    have HO4 := hide (show OwnsS wc.heap.size W4 (.slice a4 L.length c4) L from hW4 ▸ ho4.alloc _)
    clear ho4 hb4 HBc
    go_wp2_with fail
    rw [← hW4]
    clear hW4
    refine (HRi.out _ _ W4 HO4.out).mono ?_
    rintro e w5 ⟨a5, c5, rfl, ho5, hb5⟩
    have hs4 := HB4.out.size
    obtain ⟨W5, hW5⟩ : ∃ W5, W5 = w5.alloc (.cells #[.string rm, .slice a5 RL.length c5, .int .i64 rx] 31) := ⟨_, rfl⟩
    have hb45 : Below W4.heap.size W4 W5 := hW5 ▸ hb5.alloc hb5.size _
    have HB5 := hide (HB4.out.trans (hb45.mono hs4))
    have HD5 := hide (HD4.out.below hb45 HD4.out.lt)
    have HO5 := hide (HO4.out.below hb45 (Nat.le_refl _))
    have HX5 := hide (show BoxB 31 W5 w5.heap.size (.string rm) (.slice a5 RL.length c5) (.int .i64 rx) from hW5 ▸ BoxB.new _ w5 _ _ _)
    have HP5 := hide (show OwnsS W4.heap.size W5 (.slice a5 RL.length c5) RL from hW5 ▸ ho5.alloc _)
    have hs5 := HB5.out.size
    have HOld := hide (HD4.out.below hb5 HD4.out.lt)
    obtain ⟨q0, q1, q2⟩ := HOld.out.cells
    have hql := HOld.out.lt
    clear hb45 ho5 hb5 HB4 HD4 HO4 hs4 HRi
    go_wp2_with fail
    rw [← hW5]
    clear hW5 q0 q1 q2 hql HOld
    refine (HRs.out _ _ W5 HO5.out).mono ?_
    rintro e w6 ⟨a6, c6, rfl, ho6, hb6⟩
    obtain ⟨W6, hW6⟩ : ∃ W6, W6 = w6.alloc (.cells #[.string rm, .slice a6 RL.length c6, .int .i64 rx] 31) := ⟨_, rfl⟩
    have hb56 : Below W5.heap.size W5 W6 := hW6 ▸ hb6.alloc hb6.size _
    have HB6 := hide (HB5.out.trans (hb56.mono hs5))
    have HD6 := hide (HD5.out.below hb56 HD5.out.lt)
    have HO6 := hide (HO5.out.below hb56 (Nat.le_refl _))
    have HX6 := hide (HX5.out.below hb56 HX5.out.lt)
    have HP6 := hide (HP5.out.below hb56 (Nat.le_refl _))
    have hs6 := HB6.out.size
    clear hb56 ho6 hb6 HB5 HD5 HO5 HX5 HP5 hs5 HRs
    go_wp2_with fail
    rw [← hW6]
    clear hW6
    refine (drawKeyAdd_any a cap bs W6 hs6 (HC.out.keep fun k hk => HB6.out.block k hk) HM.out).mono ?_
    rintro e w7 ⟨me, a7, n7, c7, M, y, u, kk, rfl, ho7, hl7, hb7⟩
    obtain ⟨rfl, _⟩ := own_rd ho7
    have HM7 := hide hl7
    generalize (⟨kk.toArray⟩ : ByteArray) = key
    obtain ⟨sm, SL, sx, sk, hSl, hSf, hSg, hSi, hSs⟩ := add_letters me M y u key hl7
    have HSl := hide hSl
    have HSf := hide hSf
    have HSg := hide hSg
    have HSi := hide hSi
    have HSs := hide hSs
    clear hSl hSf hSg hSi hSs hl7
    obtain ⟨W7, hW7⟩ : ∃ W7, W7 = w7.alloc (.cells #[.string me, .slice a7 M.length c7, .int .i64 y] 31) := ⟨_, rfl⟩
    have hb67 : Below W6.heap.size W6 W7 := hW7 ▸ hb7.alloc hb7.size _
    have HB7 := hide (HB6.out.trans (hb67.mono hs6))
    have HD7 := hide (HD6.out.below hb67 HD6.out.lt)
    have HO7 := hide (HO6.out.below hb67 (Nat.le_refl _))
    have HX7 := hide (HX6.out.below hb67 HX6.out.lt)
    have HP7 := hide (HP6.out.below hb67 (Nat.le_refl _))
    have HE7 := hide (show BoxB 31 W7 w7.heap.size (.string me) (.slice a7 M.length c7) (.int .i64 y) from hW7 ▸ BoxB.new _ w7 _ _ _)
    have HQ7 := hide (show OwnsS W6.heap.size W7 (.slice a7 M.length c7) M from hW7 ▸ ho7.alloc _)
    have hs7 := HB7.out.size
    clear hb67 ho7 hb7 HB6 HD6 HO6 HX6 HP6 hs6
    go_wp2_with fail
    rw [← hW7]
    clear hW7
    refine (HSi.out _ _ W7 HQ7.out).mono ?_
    rintro e w8 ⟨a8, c8, rfl, ho8, hb8⟩
    obtain ⟨W8, hW8⟩ : ∃ W8, W8 = w8.alloc (.cells #[.string sm, .slice a8 SL.length c8, .int .i64 sx] 31) := ⟨_, rfl⟩
    have hb78 : Below W7.heap.size W7 W8 := hW8 ▸ hb8.alloc hb8.size _
    have HB8 := hide (HB7.out.trans (hb78.mono hs7))
    have HD8 := hide (HD7.out.below hb78 HD7.out.lt)
    have HO8 := hide (HO7.out.below hb78 (Nat.le_refl _))
    have HX8 := hide (HX7.out.below hb78 HX7.out.lt)
    have HP8 := hide (HP7.out.below hb78 (Nat.le_refl _))
    have HE8 := hide (HE7.out.below hb78 HE7.out.lt)
    have HQ8 := hide (HQ7.out.below hb78 (Nat.le_refl _))
    have HY8 := hide (show BoxB 31 W8 w8.heap.size (.string sm) (.slice a8 SL.length c8) (.int .i64 sx) from hW8 ▸ BoxB.new _ w8 _ _ _)
    have HZ8 := hide (show OwnsS W7.heap.size W8 (.slice a8 SL.length c8) SL from hW8 ▸ ho8.alloc _)
    have hs8 := HB8.out.size
    have HOld := hide (HE7.out.below hb8 HE7.out.lt)
    obtain ⟨q0, q1, q2⟩ := HOld.out.cells
    have hql := HOld.out.lt
    clear hb78 ho8 hb8 HB7 HD7 HO7 HX7 HP7 HE7 HQ7 hs7 HSi
    go_wp2_with fail
    rw [← hW8]
    clear hW8 q0 q1 q2 hql HOld
    refine (HSs.out _ _ W8 HQ8.out).mono ?_
    rintro e w9 ⟨a9, c9, rfl, ho9, hb9⟩
    obtain ⟨W9, hW9⟩ : ∃ W9, W9 = w9.alloc (.cells #[.string sm, .slice a9 SL.length c9, .int .i64 sx] 31) := ⟨_, rfl⟩
    have hb89 : Below W8.heap.size W8 W9 := hW9 ▸ hb9.alloc hb9.size _
    have HB9 := hide (HB8.out.trans (hb89.mono hs8))
    have HD9 := hide (HD8.out.below hb89 HD8.out.lt)
    have HO9 := hide (HO8.out.below hb89 (Nat.le_refl _))
    have HX9 := hide (HX8.out.below hb89 HX8.out.lt)
    have HP9 := hide (HP8.out.below hb89 (Nat.le_refl _))
    have HE9 := hide (HE8.out.below hb89 HE8.out.lt)
    have HQ9 := hide (HQ8.out.below hb89 (Nat.le_refl _))
    have HY9 := hide (HY8.out.below hb89 HY8.out.lt)
    have HZ9 := hide (HZ8.out.below hb89 (Nat.le_refl _))
    have hs9 := HB9.out.size
    clear hb89 ho9 hb9 HB8 HD8 HO8 HX8 HP8 HE8 HQ8 HY8 HZ8 hs8 HSs
    go_upto_region 16 with (fail)
    rw [← hW9]
    clear hW9
    go_cut [124] from 23 (fun s124 wx => s124 = .bool false ∧ Hid (Below W9.heap.size W9 wx))
    case first =>
      cases rk with
      | false =>
        go_wp2_with fail
        go_meet
        exact ⟨rfl, hide (Below.refl _ _)⟩
      | true =>
        obtain ⟨f1, f2, f3, f4, f5⟩ := HRf.out rfl
        have F1 := hide f1
        obtain ⟨kd, hkd⟩ : ∃ kd, kd = keyOfV md L x t := ⟨_, rfl⟩
        have F2 := hide (show kd.size = 32 by rw [hkd]; exact f2)
        have HK := hide hkd
        have e2 := ne_none F2.out
        have e3 : IntKind.i64.wrap (x + 1) = x + 1 := by rw [IntKind.wrap_i64]; omega
        subst f3
        clear f1 f2 f4 f5 hkd
        obtain ⟨p0, p1, p2⟩ := HX9.out.cells
        go_wp2_with fail
        refine (iKeyOf_any rm a5 c5 RL (x + 1) t W9 (own_rd HP9.out).2 (by have := HRl.out; omega)).mono ?_
        rw [F1.out]
        rintro e w10 ⟨rfl, hb10⟩
        have HB10 := hide hb10
        clear hb10 p0 p1 p2
        obtain ⟨p0, p1, p2⟩ := (HD9.out.below HB10.out HD9.out.lt).cells
        unfold noKey
        go_wp2_with fail
        refine (sKeyOf_any md a4 c4 L x t w10 (own_rd (HO9.out.below HB10.out (Nat.le_refl _))).2 (by have := HL.out; omega)).mono ?_
        rw [← HK.out]
        rintro e w11 ⟨rfl, hb11⟩
        have HB11 := hide (HB10.out.trans (hb11.mono HB10.out.size))
        clear hb11 p0 p1 p2
        obtain ⟨p0, p1, p2⟩ := (HD9.out.below HB11.out HD9.out.lt).cells
        obtain ⟨q0, q1, q2⟩ := (HX9.out.below HB11.out HX9.out.lt).cells
        go_wp2_with fail
        go_meet
        exact ⟨rfl, HB11⟩
    case rest =>
      obtain ⟨rfl, HBx⟩ := hcut
      have HBw := hide (HB9.out.trans (HBx.out.mono hs9))
      have hsw := HBw.out.size
      have HEx := hide (HE9.out.below HBx.out HE9.out.lt)
      have HQx := hide (HQ9.out.below HBx.out (Nat.le_refl _))
      have HYx := hide (HY9.out.below HBx.out HY9.out.lt)
      have HZx := hide (HZ9.out.below HBx.out (Nat.le_refl _))
      clear HB9 HD9 HO9 HX9 HP9 HE9 HQ9 HY9 HZ9 hs9 HRf HRl HL HBx
      go_upto_region 18 with (fail)
      go_cut [137] from 23 (fun s137 wx => s137 = .bool false ∧ Hid (Below wc.heap.size wc wx))
      case first =>
        cases sk with
        | false =>
          go_wp2_with fail
          go_meet
          exact ⟨rfl, hide (Below.refl _ _)⟩
        | true =>
          obtain ⟨f1, f2⟩ := HSf.out rfl
          have F1 := hide f1
          have F2 := hide f2
          clear f1 f2
          obtain ⟨p0, p1, p2⟩ := HYx.out.cells
          go_wp2_with fail
          refine (iKeyOf_any sm a8 c8 SL sx u wc (own_rd HZx.out).2 (by have := HSl.out; omega)).mono ?_
          rw [F1.out]
          rintro e w10 ⟨rfl, hb10⟩
          have HB10 := hide hb10
          clear hb10 p0 p1 p2
          obtain ⟨p0, p1, p2⟩ := (HYx.out.below HB10.out HYx.out.lt).cells
          go_wp2_with fail
          refine (sKeyOk_any sm a8 c8 SL sx w10 (own_rd (HZx.out.below HB10.out (Nat.le_refl _))).2 (by have := HSl.out; omega)).mono ?_
          rw [F2.out]
          rintro e w11 ⟨rfl, hb11⟩
          have HB11 := hide (HB10.out.trans (hb11.mono HB10.out.size))
          clear hb11
          go_wp2_with fail
          go_meet
          exact ⟨rfl, HB11⟩
      case rest =>
        obtain ⟨rfl, HBy⟩ := hcut
        have HBv := hide (HBw.out.trans (HBy.out.mono hsw))
        have hsv := HBv.out.size
        have HEy := hide (HEx.out.below HBy.out HEx.out.lt)
        have HQy := hide (HQx.out.below HBy.out (Nat.le_refl _))
        have HYy := hide (HYx.out.below HBy.out HYx.out.lt)
        have HZy := hide (HZx.out.below HBy.out (Nat.le_refl _))
        clear HBw HEx HQx HYx HZx HBy hsw HSf
        obtain ⟨p0, p1, p2⟩ := HEy.out.cells
        go_wp2_with fail
        refine (sKeyOk_any me a7 c7 M y wc (own_rd HQy.out).2 (by have := HM7.out; omega)).mono ?_
        rintro e w10 ⟨rfl, hb10⟩
        have HBt := hide (HBv.out.trans (hb10.mono hsv))
        have hst := HBt.out.size
        obtain ⟨q0, q1, q2⟩ := (HYy.out.below hb10 HYy.out.lt).cells
        have HQt := hide (HQy.out.below hb10 (Nat.le_refl _))
        have HZt := hide (HZy.out.below hb10 (Nat.le_refl _))
        have HEt := hide (HEy.out.below hb10 HEy.out.lt)
        clear p0 p1 p2 hb10
        obtain ⟨p0, p1, p2⟩ := HEt.out.cells
        cases hd : devOkB me M y with
        | false =>
          go_wp2_with fail
          go_ret
          exact ⟨rfl, HBt.out⟩
        | true =>
          cases sk with
          | true =>
            go_wp2_with fail
            go_ret
            exact ⟨rfl, HBt.out⟩
          | false =>
            obtain ⟨rfl, rfl, rfl⟩ := HSg.out rfl hd
            go_wp2_with fail
            refine (sameKeys_same sm a8 a7 c8 c7 SL sx w10 (own_rd HZt.out).2 (own_rd HQt.out).2 (by have := HSl.out; omega)).mono ?_
            rintro e w11 ⟨rfl, hb11⟩
            have HB11 := hide (HBt.out.trans (hb11.mono hst))
            clear hb11
            go_wp2_with fail
            go_ret
            exact ⟨rfl, HB11.out⟩

theorem law_keys (a0 : Option Addr) (len0 cap0 : Nat) (z0 : List Int) (w : World) (f0 : IsRow .u8 w a0 len0 cap0 z0) (h0 : 1 < w.heap.size) (hT : Hid (CrcTabIn w)) :
    Calls Tryd.prog 3 #[.slice a0 len0 cap0] w fun e w' => e = .returned (.bool true) ∧ Below w.heap.size w w' := by
  obtain ⟨h1, h2⟩ := f0.code
  have := keys_core a0 cap0 (z0.take len0) w h2 h0 hT
  rwa [h1] at this
end Go.Proofs.YtakjjfbocokpaaaDoor
