/-
  Texts of this proof, put together: LawTokens.
-/
import Derived.Test.YtoaobhfooccliaaPackAS
import Derived.Test.YtoaobhfooccliaaPackAD
import Derived.Test.YtoaobhfooccliaaPackAT
import Derived.Deep.DeepCutAuto

/-
  The walk of laws.FnTokens: it returns true.
-/
namespace Go.Proofs.Ytoaobhfooccliaa
open Go.ChangeShapes Go.WideShapes Go.ChangeAt Go.RowKit

theorem u8_xor_byte' (a b : UInt8) : bits .xor .u8 (a.toNat : Int) (b.toNat : Int) = ((a ^^^ b).toNat : Int) := by
  rw [u8_xor_nat _ _ a.toNat_lt b.toNat_lt, UInt8.toNat_xor]
theorem xor_ne (a b : UInt8) (h : b ≠ 0) : a ^^^ b ≠ a := by
  intro he
  apply h
  have := congrArg (fun x => a ^^^ x) he
  simpa [← UInt8.xor_assoc] using this
/-- what is read once for both: over letters -/
theorem read_letters (k s : ByteArray) (hs : s.size ≤ 1048576) : ∃ (T E : Int) (b : Bool), (b = true → tokV (bl k) T E = bl s) ∧
    (∀ W, Calls Try.prog 8 #[.string k, .string s] W fun e w' => e = .returned (.tuple #[.int .i64 T, .int .i64 E, .bool b]) ∧ Below W.heap.size W w') ∧
    (∀ W, Calls Try.prog 9 #[.string k, .string s] W fun e w' => e = .returned (.tuple #[.int .i64 T, .int .i64 E, .bool b]) ∧ Below W.heap.size W w') := by
  refine ⟨rtT (bl k) (bl s), rtE (bl k) (bl s), rtB (bl k) (bl s), fun h => ?_, fun W => iReadToken_any k s (by unfold maxLen; omega) W, fun W => sReadToken_any k s hs W⟩
  have hi : isTok (bl k) (bl s) := of_decide_eq_true h
  obtain ⟨h1, h2, _⟩ := rt_yes hi
  rw [h1, h2]
  exact hi.2
theorem read_yes (k : ByteArray) (t n : Int) (h : tokOk (bl k) t n) (W : World) : Calls Try.prog 8 #[.string k, .string ⟨(tokV (bl k) t n).toArray⟩] W fun e w' => e = .returned (.tuple #[.int .i64 t, .int .i64 n, .bool true]) ∧ Below W.heap.size W w' := by
  obtain ⟨h0, h1, h2⟩ := tok_is h
  refine (iReadToken_any k ⟨(tokV (bl k) t n).toArray⟩ (by rw [size_of]; have := tokV_len (bl k) t n; unfold maxLen; omega) W).mono fun e w' hp => ?_
  obtain ⟨he, hb⟩ := hp
  rw [bl_of (tokV (bl k) t n)] at he
  obtain ⟨r1, r2, r3⟩ := rt_yes h0
  rw [r1, r2, r3, h1, h2] at he
  exact ⟨he, hb⟩
theorem read_no (k : ByteArray) (l : List UInt8) (hl : l.length ≤ 1048576) (h : ¬ isTok (bl k) l) (W : World) : Calls Try.prog 8 #[.string k, .string ⟨l.toArray⟩] W fun e w' => e = .returned (.tuple #[.int .i64 0, .int .i64 0, .bool false]) ∧ Below W.heap.size W w' := by
  refine (iReadToken_any k ⟨l.toArray⟩ (by rw [size_of]; unfold maxLen; omega) W).mono fun e w' hp => ?_
  obtain ⟨he, hb⟩ := hp
  rw [bl_of l] at he
  obtain ⟨r1, r2, r3⟩ := rt_no h
  rw [r1, r2, r3] at he
  exact ⟨he, hb⟩
theorem bent_no (m : ByteArray) (t n : Int) (V : List UInt8) (hV : V = tokV (bl m) t n) (hk : tokOk (bl m) t n) (p : Nat) (b : UInt8) (h8 : V.length - 8 ≤ p) (hp : p < V.length) (hb : b ≠ V[p]) (W : World) :
    Calls Try.prog 8 #[.string m, .string ⟨(V.take p ++ [b] ++ V.drop (p + 1)).toArray⟩] W fun e w' => e = .returned (.tuple #[.int .i64 0, .int .i64 0, .bool false]) ∧ Below W.heap.size W w' := by
  subst hV
  refine read_no m _ ?_ (tok_bent hk p b h8 hp hb) W
  have := tokV_len (bl m) t n
  simp only [List.length_append, List.length_take, List.length_drop, List.length_cons, List.length_nil]
  omega
theorem conv_one (b : UInt8) (W : World) : (convert 22 9 (.slice (some ⟨W.heap.size, 0, none⟩) 1 1)).run Try.prog (W.alloc (.cells #[.int .u8 (b.toNat : Int)] 5)) = .ok (.string ⟨#[b]⟩) (W.alloc (.cells #[.int .u8 (b.toNat : Int)] 5)) :=
  run_convTake W.heap.size 1 1 _ [b] _ (Holds8.new 5 W [b]) rfl rfl
theorem conv_one_drew (b : UInt8) (W : World) : (convert 22 9 (.slice (some ⟨W.heap.size, 0, none⟩) 1 1)).run Try.prog (W.alloc (.cells #[.int .u8 (b.toNat : Int)] 5)).drew = .ok (.string ⟨#[b]⟩) (W.alloc (.cells #[.int .u8 (b.toNat : Int)] 5)).drew :=
  run_convTake W.heap.size 1 1 _ [b] _ (show Holds8 _ (W.alloc _).drew _ _ from Holds8.new 5 W [b]) rfl rfl
/-- the changed byte, and the string round it, as the walk spells them -/
theorem bend (m : ByteArray) (A1 A3 : List UInt8) (c : UInt8) (y : Nat) (hy : y ≤ 255) (hl : A1.length ≤ 22 ∧ A3.length ≤ 22) (P : World → Ending → World → Prop)
    (hN : ∀ b, b ≠ c → ∀ W, Calls Try.prog 8 #[.string m, .string ⟨(A1 ++ [b] ++ A3).toArray⟩] W (P W)) :
    ∃ (bb : UInt8) (BM BN : List UInt8), bits .xor .u8 (c.toNat : Int) (IntKind.u8.wrap (IntKind.i64.wrap (1 + (y : Int).tmod 255))) = (bb.toNat : Int) ∧
      (∀ W, (Op.stringOp .add ⟨A1.toArray⟩ ⟨#[bb]⟩).run Try.prog W = .ok (.string ⟨BM.toArray⟩) W) ∧
      (∀ W, (Op.stringOp .add ⟨BM.toArray⟩ ⟨A3.toArray⟩).run Try.prog W = .ok (.string ⟨BN.toArray⟩) W) ∧
      Hid (∀ W, Calls Try.prog 8 #[.string m, .string ⟨BN.toArray⟩] W (P W)) := by
  have hz : (1 : Int) + (y : Int).tmod 255 = ((UInt8.ofNat (1 + y % 255)).toNat : Int) := by
    rw [Int.tmod_eq_emod_of_nonneg (by omega)]
    simp only [UInt8.toNat_ofNat']
    omega
  have hz0 : UInt8.ofNat (1 + y % 255) ≠ 0 := by
    intro h0
    have := congrArg UInt8.toNat h0
    simp only [UInt8.toNat_ofNat'] at this
    have h00 : (0 : UInt8).toNat = 0 := rfl
    omega
  generalize UInt8.ofNat (1 + y % 255) = z at hz hz0
  have hzl : z.toNat < 256 := z.toNat_lt
  refine ⟨c ^^^ z, A1 ++ [c ^^^ z], A1 ++ [c ^^^ z] ++ A3, ?_, fun W => run_cat A1 [c ^^^ z] (by simp; omega) W, fun W => run_cat _ A3 (by simp; omega) W, fun W => hN _ (xor_ne c z hz0) W⟩
  rw [hz, show IntKind.i64.wrap (z.toNat : Int) = (z.toNat : Int) by rw [IntKind.wrap_i64]; omega, show IntKind.u8.wrap (z.toNat : Int) = (z.toNat : Int) by rw [IntKind.wrap_u8']; omega]
  exact u8_xor_byte' c z

set_option maxHeartbeats 4000000 in
set_option maxRecDepth 100000 in
theorem tokens_core (a : Option Addr) (cap : Nat) (bs : List Int) (w : World) (hc : CodeAt w.heap.size w a bs) :
    Calls Try.prog 3 #[.slice a bs.length cap] w fun e w' => e = .returned (.bool true) ∧ Below w.heap.size w w' := by
  have HC := hide hc
  clear hc
  go_enter Try.func3, Try.ntmps3
  go_wp2_with fail
  refine (big_any a bs.length cap w).mono ?_
  rintro e w0 ⟨rfl, rfl⟩
  by_cases hbig : (1048576 : Int) < (bs.length : Int)
  · have hd : decide ((1048576 : Int) < (bs.length : Int)) = true := decide_eq_true hbig
    rw [hd]
    clear hd hbig
    go_wp2_with fail
    go_ret
    exact ⟨rfl, Below.refl _ _⟩
  have hd : decide ((1048576 : Int) < (bs.length : Int)) = false := decide_eq_false hbig
  rw [hd]
  have HM := hide (show bs.length ≤ 1048576 by omega)
  clear hd hbig
  go_wp2_with fail
  refine (drawReadToken_any a cap bs _ (Nat.le_refl _) HC.out HM.out).mono ?_
  rintro e w1 ⟨k, s, rfl, hs1, hb1⟩
  have HB1 := hide hb1
  have hz1 := hb1.size
  obtain ⟨T, E, b, hbt, hI, hS⟩ := read_letters k s hs1
  have HI := hide hI
  have HS := hide hS
  have HT := hide hbt
  clear hb1 hI hS hbt
  go_wp2_with fail
  refine (HI.out _).mono ?_
  rintro e w2 ⟨rfl, hb2⟩
  have HB2 := hide (HB1.out.trans (hb2.mono hz1))
  have hz2 := HB2.out.size
  clear hb2 HB1 hz1
  go_wp2_with fail
  refine (HS.out _).mono ?_
  rintro e w3 ⟨rfl, hb3⟩
  have HB3 := hide (HB2.out.trans (hb3.mono hz2))
  have hz3 := HB3.out.size
  clear hb3 HB2 hz2 HI HS
  go_upto_region 6 with (fail)
  go_cut [67] from 23 (fun s67 wc => s67 = .bool false ∧ Hid (Below w.heap.size w wc))
  case first =>
    cases b with
    | false =>
      go_wp2_with fail
      go_meet
      exact ⟨rfl, HB3⟩
    | true =>
      have HV := hide (HT.out rfl)
      go_wp2_with fail
      refine (iMint_any k T E _).mono ?_
      rw [HV.out]
      rintro e w4 ⟨he, hb4⟩
      rw [str_of] at he
      subst he
      have HB4 := hide (HB3.out.trans (hb4.mono hz3))
      clear hb4
      go_wp2_with fail
      go_meet
      exact ⟨rfl, HB4⟩
  case rest =>
    obtain ⟨rfl, HBc⟩ := hcut
    have hsc := HBc.out.size
    clear HB3 hz3 HT
    go_wp2_with fail
    refine (drawMintToken_any a cap bs wc hsc (HC.out.keep fun k hk => HBc.out.block k hk) HM.out).mono ?_
    rintro e w4 ⟨m, t, n, rfl, hb4⟩
    have HB4 := hide (HBc.out.trans (hb4.mono hsc))
    have hz4 := HB4.out.size
    clear hb4 HBc hsc
    go_wp2_with fail
    refine (iMint_any m t n _).mono ?_
    rintro e w5 ⟨rfl, hb5⟩
    have HB5 := hide (HB4.out.trans (hb5.mono hz4))
    have hz5 := HB5.out.size
    clear hb5 HB4 hz4
    by_cases hk : tokOk (bl m) t n
    · have HY := hide (fun W => read_yes m t n hk W)
      have hl1 := tokV_len (bl m) t n
      have hl2 := tokV_len8 hk
      obtain ⟨V, hV⟩ : ∃ V, V = tokV (bl m) t n := ⟨_, rfl⟩
      rw [← hV] at HY hl1 hl2 ⊢
      have HN := hide (fun p b h8 hp hb => bent_no m t n V hV hk p b h8 hp hb)
      clear hV hk
      obtain ⟨M, hM⟩ : ∃ M, M + 8 = V.length := ⟨V.length - 8, by omega⟩
      obtain ⟨X, hX⟩ : ∃ X : ByteArray, X = ⟨V.toArray⟩ := ⟨_, rfl⟩
      have HX := hide hX
      have hXs : X.size = M + 8 := by rw [hX, size_of, hM]
      have hbX : bl X = V := by rw [hX]; rfl
      have hne : (X.toList == []) = false := ne_empty (by rw [hbX]; intro h0; rw [h0] at hl2; simp at hl2)
      rw [← hX] at HY ⊢
      clear hX
      have HA0 := hide (fun W (h : Below w.heap.size w W) => at_any a cap bs 0 (by omega) W (HC.out.below h) HM.out)
      have HA1 := hide (fun W (h : Below w.heap.size w W) => at_any a cap bs 1 (by omega) W (HC.out.below h) HM.out)
      go_wp2_with fail
      refine (HA0.out _ HB5.out).mono ?_
      rintro e w6 ⟨y0, rfl, hy0, rfl⟩
      obtain ⟨j, hj⟩ : ∃ j : Nat, (y0 : Int) % 8 = (j : Int) := ⟨y0 % 8, by omega⟩
      have hj8 : j < 8 := by omega
      go_wp2_with fail
      rw [hj]
      clear hj hy0
      obtain ⟨p, hp⟩ : ∃ p, p = M + j := ⟨_, rfl⟩
      obtain ⟨p1, hp1⟩ : ∃ p1, p1 = p + 1 := ⟨_, rfl⟩
      obtain ⟨M1, hM1⟩ : ∃ M1, M1 = M + 1 := ⟨_, rfl⟩
      have hpl : p < V.length := by omega
      have hpX : p < X.size := by omega
      have g8 : (X.size : Int) - 8 = (M : Int) := by omega
      have g7 : (X.size : Int) - 7 = (M1 : Int) := by omega
      have gp : (M : Int) + (j : Int) = (p : Int) := by omega
      have gp1 : (M1 : Int) + (j : Int) = (p1 : Int) := by omega
      have v8 : IntKind.i64.wrap (M : Int) = (M : Int) := by rw [IntKind.wrap_i64]; omega
      have v7 : IntKind.i64.wrap (M1 : Int) = (M1 : Int) := by rw [IntKind.wrap_i64]; omega
      have vp : IntKind.i64.wrap (p : Int) = (p : Int) := by rw [IntKind.wrap_i64]; omega
      have vp1 : IntKind.i64.wrap (p1 : Int) = (p1 : Int) := by rw [IntKind.wrap_i64]; omega
      have b1 : (0 : Int) ≤ (p : Int) := by omega
      have b2 : (p : Int) ≤ (X.size : Int) := by omega
      have b3 : (p : Int) < (X.size : Int) := by omega
      have b4 : (0 : Int) ≤ (p1 : Int) := by omega
      have b5 : (p1 : Int) ≤ (X.size : Int) := by omega
      have b6 : p ≤ X.size := by omega
      have b7 : p1 ≤ X.size := by omega
      obtain ⟨c, hc⟩ : ∃ c : UInt8, c = V[p] := ⟨_, rfl⟩
      have hcX : X[p]'hpX = c := by rw [hc]; have := bl_at X p hpX (by rw [hbX]; exact hpl); simp only [hbX] at this; exact this.symm
      obtain ⟨A1, hA1⟩ : ∃ A1, A1 = V.take p := ⟨_, rfl⟩
      obtain ⟨A3, hA3⟩ : ∃ A3, A3 = V.drop p1 := ⟨_, rfl⟩
      have q1 : X.extract 0 p = ⟨A1.toArray⟩ := by rw [ext_take, hbX, hA1]
      have q3 : X.extract p1 X.size = ⟨A3.toArray⟩ := by rw [ext_drop, hbX, hA3]
      have l1 : A1.length ≤ 22 := by rw [hA1, List.length_take]; omega
      have l3 : A3.length ≤ 22 := by rw [hA3, List.length_drop]; omega
      have HNp := hide (fun b hb W => HN.out p b (by omega) hpl hb W)
      rw [← hA1, ← hp1, ← hA3] at HNp
      rw [← hc] at HNp
      have HL := hide (And.intro l1 l3)
      clear HN hc hA1 hA3 hp hp1 hM1 hM hl1 hl2 hXs hbX hpl l1 l3
      go_region_with (go_at_call 13; refine (HA1.out _ HB5.out.drew).mono ?_; rintro e w7 ⟨y1, rfl, hy1, rfl⟩; obtain ⟨bb, BM, BN, hxz, ha1, ha2, HNo⟩ := bend m A1 A3 c y1 hy1 HL.out _ HNp.out; have hcv := conv_one_drew bb)
      all_goals
        have HB6 := hide (HB5.out.alloc hz5 (.cells #[.int .u8 (bb.toNat : Int)] 5)).drew
        go_wp2_with fail
        refine (HNo.out _).mono ?_
        rintro e w8 ⟨rfl, hb8⟩
        have HB8 := hide (HB6.out.trans (hb8.mono HB6.out.size))
        clear hb8 HB6
        go_wp2_with fail
        refine (HY.out _).mono ?_
        rintro e w9 ⟨rfl, hb9⟩
        have HB9 := hide (HB8.out.trans (hb9.mono HB8.out.size))
        clear hb9 HB8
        go_wp2_with fail
        go_ret
        exact ⟨rfl, HB9.out⟩
    · have HS := hide (fun W => sMint_any m t n W)
      rw [tokV_no hk] at HS ⊢
      clear hk
      go_wp2_with fail
      refine (HS.out _).mono ?_
      rintro e w6 ⟨rfl, hb6⟩
      have HB6 := hide (HB5.out.trans (hb6.mono hz5))
      clear hb6
      go_wp2_with fail
      go_ret
      exact ⟨rfl, HB6.out⟩

theorem law_tokens (a0 : Option Addr) (len0 cap0 : Nat) (z0 : List Int) (w : World) (w0 : IsRow .u8 w a0 len0 cap0 z0) :
    Calls Try.prog 3 #[.slice a0 len0 cap0] w fun e w' => e = .returned (.bool true) ∧ Below w.heap.size w w' := by
  obtain ⟨h1, h2⟩ := w0.code
  have := tokens_core a0 cap0 (z0.take len0) w h2
  rwa [h1] at this
end Go.Proofs.Ytoaobhfooccliaa
