/-
  Texts of this proof, put together: LawFiles.
-/
import Derived.Test.YtakjjfbocokpaaaDoorPackAU
import Derived.Test.YtakjjfbocokpaaaDoorPackAD
import Derived.Test.YtakjjfbocokpaaaDoorPackAW
import Derived.Deep.RegionWith

/-
  The walk of laws.FnSealedFiles: it returns true.
-/
namespace Go.Proofs.YtakjjfbocokpaaaDoor
open Go.ChangeShapes Go.WideShapes Go.ChangeAt Go.RowKit

theorem xor_byte13 (a b : UInt8) : bits .xor .u8 (a.toNat : Int) (b.toNat : Int) = ((a ^^^ b).toNat : Int) := by
  rw [u8_xor_nat _ _ a.toNat_lt b.toNat_lt, UInt8.toNat_xor]
theorem xor_ne13 (a b : UInt8) (h : b ≠ 0) : a ^^^ b ≠ a := by
  intro he
  apply h
  have := congrArg (fun x => a ^^^ x) he
  simpa [← UInt8.xor_assoc] using this
def OpensTo (k : ByteArray) (n : Int) (s T : ByteArray) (b : Bool) (w : World) : Prop :=
  ∀ W, Below w.heap.size w W → Calls Tryd.prog 34 #[.string k, .int .i64 n, .string s] W fun e w' => e = .returned (.tuple #[.string T, .bool b]) ∧ Below W.heap.size W w'
theorem opens_to (x : Addr) (k s : ByteArray) (n : Int) (w : World) (hs : s.size ≤ 4000) (h0 : 1 < w.heap.size) (hT : Hid (CrcTabIn w)) (hM : Hid (MisIn x w)) : OpensTo k n s ⟨(openV (bl k) n (bl s)).toArray⟩ (openQ (bl k) n (bl s)) w := fun W hb =>
  iOpenFile_any x k s n W (by omega) (Nat.lt_of_lt_of_le h0 hb.size) (hide (hT.out.below hb h0)) (hide (hM.out.below hb))
/-- of a string that opens -/
theorem file_yes (x : Addr) (k s : ByteArray) (n : Int) (w : World) (hs : s.size ≤ 4000) (h0 : 1 < w.heap.size) (hT : Hid (CrcTabIn w)) (hM : Hid (MisIn x w)) (hw : openOk (bl k) n (bl s)) :
    ∃ T K : ByteArray, 4 ≤ s.size ∧ K.size = 32 ∧ OpensTo k n s T true w ∧
      (∀ W, Calls Tryd.prog 35 #[.string k, .int .i64 n, .string s] W fun e w' => e = .returned (.tuple #[.string T, .bool true]) ∧ Below W.heap.size W w') ∧
      (∀ W, Below w.heap.size w W → Calls Tryd.prog 36 #[.string k, .int .i64 n, .string T] W fun e w' => e = .returned (.string s) ∧ Below W.heap.size W w') ∧
      (∀ W, Calls Tryd.prog 37 #[.string k, .int .i64 n] W fun e w' => e = .returned (.string K) ∧ Below W.heap.size W w') ∧
      (∀ (p : Nat) (hp : p < s.size) (b : UInt8), b ≠ s[p] → OpensTo k n ⟨((bl s).take p ++ [b] ++ (bl s).drop (p + 1)).toArray⟩ ByteArray.empty false w) := by
  have hU := open_yes hw
  have h1 := opens_to x k s n w hs h0 hT hM
  rw [hU.2] at h1
  have h2 := fun W => sOpenFile_any k s n W (by omega)
  refine ⟨⟨(openV (bl k) n (bl s)).toArray⟩, ⟨(fkeyV (bl k) n).toArray⟩, ?_, by rw [size_of]; exact fkey_len hw.1, h1, fun W => ?_, fun W hb => ?_, fun W => iFileKey_any k n W, fun p hp b hb => ?_⟩
  · have := hw.2.1
    rwa [bl_len] at this
  · have := h2 W
    unfold OpenFPost at this
    rw [hU.2] at this
    exact this
  · have := iSealFile_any k ⟨(openV (bl k) n (bl s)).toArray⟩ n W (Nat.lt_of_lt_of_le h0 hb.size) (hide (hT.out.below hb h0))
    rw [bl_of (openV (bl k) n (bl s)), open_show hU.2] at this
    refine this.mono fun e w' h => ?_
    obtain ⟨he, h⟩ := h
    rw [← ba_mk s] at he
    exact ⟨he, h⟩
  · have hpl : p < (bl s).length := by rw [bl_len]; exact hp
    have hbs : bl s = (bl s).take p ++ (bl s)[p] :: (bl s).drop (p + 1) := by rw [← List.drop_eq_getElem_cons hpl, List.take_append_drop]
    have hat : (bl s)[p] = s[p] := bl_at s p hp hpl
    have hsz : (ByteArray.mk ((bl s).take p ++ [b] ++ (bl s).drop (p + 1)).toArray).size ≤ 4000 := by
      rw [size_of]
      simp only [List.length_append, List.length_take, List.length_drop, List.length_cons, List.length_nil]
      rw [bl_len]
      omega
    have := opens_to x k ⟨((bl s).take p ++ [b] ++ (bl s).drop (p + 1)).toArray⟩ n w hsz h0 hT hM
    rw [bl_of ((bl s).take p ++ [b] ++ (bl s).drop (p + 1))] at this
    have hno : ¬ openOk (bl k) n ((bl s).take p ++ [b] ++ (bl s).drop (p + 1)) := by
      intro hq
      have e1 : (bl s).take p ++ [b] ++ (bl s).drop (p + 1) = (bl s).take p ++ b :: (bl s).drop (p + 1) := by simp
      rw [e1] at hq
      have hq0 : openOk (bl k) n ((bl s).take p ++ (bl s)[p] :: (bl s).drop (p + 1)) := by rw [← hbs]; exact hw
      have := open_bent (k := bl k) (n := n) (by rw [← hbs, bl_len]; omega) (decide_eq_true hq0) (decide_eq_true hq)
      exact hb (this.symm.trans hat)
    rw [(open_no hno).1, (open_no hno).2] at this
    exact this
/-- the changed byte, and the string round it, as the walk spells them -/
theorem bend13 (A1 A3 : List UInt8) (c : UInt8) (y : Nat) (hy : y ≤ 255) (hl : A1.length ≤ 4000 ∧ A3.length ≤ 4000) :
    ∃ (bb : UInt8) (BM BN : List UInt8), bb ≠ c ∧ BN = A1 ++ [bb] ++ A3 ∧ bits .xor .u8 (c.toNat : Int) (IntKind.u8.wrap (IntKind.i64.wrap (1 + (y : Int).tmod 255))) = (bb.toNat : Int) ∧
      (∀ W, (Op.stringOp .add ⟨A1.toArray⟩ ⟨#[bb]⟩).run Tryd.prog W = .ok (.string ⟨BM.toArray⟩) W) ∧
      (∀ W, (Op.stringOp .add ⟨BM.toArray⟩ ⟨A3.toArray⟩).run Tryd.prog W = .ok (.string ⟨BN.toArray⟩) W) := by
  have hz : (1 : Int) + (y : Int).tmod 255 = ((UInt8.ofNat (1 + y % 255)).toNat : Int) := by
    rw [Int.tmod_eq_emod_of_nonneg (by omega)]
    simp only [UInt8.toNat_ofNat']
    omega
  have hz0 : UInt8.ofNat (1 + y % 255) ≠ 0 := by
    intro h0
    have := congrArg UInt8.toNat h0
    simp only [UInt8.toNat_ofNat'] at this
    have h00 : (0 : UInt8).toNat = 0 := rfl
    omega
  generalize UInt8.ofNat (1 + y % 255) = z at hz hz0
  have hzl : z.toNat < 256 := z.toNat_lt
  refine ⟨c ^^^ z, A1 ++ [c ^^^ z], A1 ++ [c ^^^ z] ++ A3, xor_ne13 c z hz0, rfl, ?_, fun W => run_cat A1 [c ^^^ z] (by simp; omega) W, fun W => run_cat _ A3 (by simp; omega) W⟩
  rw [hz, show IntKind.i64.wrap (z.toNat : Int) = (z.toNat : Int) by rw [IntKind.wrap_i64]; omega, show IntKind.u8.wrap (z.toNat : Int) = (z.toNat : Int) by rw [IntKind.wrap_u8']; omega]
  exact xor_byte13 c z
theorem conv13 (b : UInt8) (W : World) : (convert 22 9 (.slice (some ⟨W.heap.size, 0, none⟩) 1 1)).run Tryd.prog (W.alloc (.cells #[.int .u8 (b.toNat : Int)] 5)).drew = .ok (.string ⟨#[b]⟩) (W.alloc (.cells #[.int .u8 (b.toNat : Int)] 5)).drew :=
  run_convTake W.heap.size 1 1 _ [b] _ (show Holds8 _ (W.alloc _).drew _ _ from Holds8.new 5 W [b]) rfl rfl

set_option maxHeartbeats 4000000 in
set_option maxRecDepth 100000 in
theorem files_core (x : Addr) (a : Option Addr) (cap : Nat) (bs : List Int) (w : World) (hc : CodeAt w.heap.size w a bs) (h0 : 1 < w.heap.size) (hT : Hid (CrcTabIn w)) (hM : Hid (MisIn x w)) :
    Calls Tryd.prog 5 #[.slice a bs.length cap] w fun e w' => e = .returned (.bool true) ∧ Below w.heap.size w w' := by
  have HC := hide hc
  clear hc
  go_enter Tryd.func5, Tryd.ntmps5
  go_wp2_with fail
  refine (big_any a bs.length cap w).mono ?_
  rintro e w0 ⟨rfl, rfl⟩
  by_cases hbig : (1048576 : Int) < (bs.length : Int)
  · have hd : decide ((1048576 : Int) < (bs.length : Int)) = true := decide_eq_true hbig
    rw [hd]
    clear hd hbig
    go_wp2_with fail
    go_ret
    exact ⟨rfl, Below.refl _ _⟩
  have hd : decide ((1048576 : Int) < (bs.length : Int)) = false := decide_eq_false hbig
  rw [hd]
  have HM := hide (show bs.length ≤ 1048576 by omega)
  clear hd hbig
  go_wp2_with fail
  refine (drawOpenFile_any a cap bs _ (Nat.le_refl _) HC.out HM.out).mono ?_
  rintro e w1 ⟨k, n, s, rfl, hs1, hn0, hn5, hb1⟩
  have HB1 := hide hb1
  clear hb1 hn0 hn5
  by_cases hw : openOk (bl k) n (bl s)
  · obtain ⟨T, K, hs4, hK, hI, hS, hF, hFK, hN⟩ := file_yes x k s n w hs1 h0 hT hM hw
    have HI := hide hI
    have HS := hide hS
    have HF := hide hF
    have HFK := hide hFK
    have HN := hide hN
    clear hI hS hF hFK hN hw
    go_wp2_with fail
    refine (HI.out _ HB1.out).mono ?_
    rintro e w2 ⟨rfl, hb2⟩
    have HB2 := hide (HB1.out.trans (hb2.mono HB1.out.size))
    clear hb2 HB1
    go_wp2_with fail
    refine (HS.out _).mono ?_
    rintro e w3 ⟨rfl, hb3⟩
    have HB3 := hide (HB2.out.trans (hb3.mono HB2.out.size))
    clear hb3 HB2
    have HA0 := hide (fun W (h : Below w.heap.size w W) => at_any a cap bs 0 (by omega) W (HC.out.below h) HM.out)
    have HA1 := hide (fun W (h : Below w.heap.size w W) => at_any a cap bs 1 (by omega) W (HC.out.below h) HM.out)
    have hs0 : ((s.size : Int) == 0) = false := by rw [beq_eq_false_iff_ne]; omega
    go_wp2_with fail
    refine (HA0.out _ HB3.out).mono ?_
    rintro e w4 ⟨y0, rfl, hy0, rfl⟩
    obtain ⟨p, hp⟩ : ∃ p : Nat, p = y0 % s.size := ⟨_, rfl⟩
    have hpl : p < s.size := by rw [hp]; exact Nat.mod_lt _ (by omega)
    have hmod : (y0 : Int) % (s.size : Int) = (p : Int) := by rw [hp, Int.natCast_emod]
    go_wp2_with fail
    rw [hmod]
    obtain ⟨p1, hp1⟩ : ∃ p1, p1 = p + 1 := ⟨_, rfl⟩
    have gp1 : (p : Int) + 1 = (p1 : Int) := by omega
    have vp1 : IntKind.i64.wrap (p1 : Int) = (p1 : Int) := by rw [IntKind.wrap_i64]; omega
    have b1 : (0 : Int) ≤ (p : Int) := by omega
    have b2 : (p : Int) ≤ (s.size : Int) := by omega
    have b3 : (p : Int) < (s.size : Int) := by omega
    have b4 : (0 : Int) ≤ (p1 : Int) := by omega
    have b5 : (p1 : Int) ≤ (s.size : Int) := by omega
    have b6 : p ≤ s.size := by omega
    have b7 : p1 ≤ s.size := by omega
    obtain ⟨c, hc⟩ : ∃ c : UInt8, c = s[p] := ⟨_, rfl⟩
    have hcX : s[p]'hpl = c := hc.symm
    obtain ⟨A1, hA1⟩ : ∃ A1, A1 = (bl s).take p := ⟨_, rfl⟩
    obtain ⟨A3, hA3⟩ : ∃ A3, A3 = (bl s).drop p1 := ⟨_, rfl⟩
    have q1 : s.extract 0 p = ⟨A1.toArray⟩ := by rw [ext_take, hA1]
    have q3 : s.extract p1 s.size = ⟨A3.toArray⟩ := by rw [ext_drop, hA3]
    have l1 : A1.length ≤ 4000 := by rw [hA1, List.length_take, bl_len]; omega
    have l3 : A3.length ≤ 4000 := by rw [hA3, List.length_drop, bl_len]; omega
    have HNp := hide (fun b hb => HN.out p hpl b hb)
    rw [← hA1, ← hp1, ← hA3] at HNp
    rw [hcX] at HNp
    have HL := hide (And.intro l1 l3)
    have HK := hide hK
    clear HN hc hA1 hA3 hp1 hp l1 l3 hy0 hmod hs4 hs1
    go_region_with (go_at_call 32; refine (HA1.out _ HB3.out.drew).mono ?_; rintro e w7 ⟨y1, rfl, hy1, rfl⟩; obtain ⟨bb, BM, BN, hbb, hBN, hxz, ha1, ha2⟩ := bend13 A1 A3 c y1 hy1 HL.out; have HNo := hide (show OpensTo k n ⟨BN.toArray⟩ ByteArray.empty false w by rw [hBN]; exact HNp.out bb hbb); have hcv := conv13 bb; clear hbb hBN)
    all_goals
      have HB6 := hide (HB3.out.alloc HB3.out.size (.cells #[.int .u8 (bb.toNat : Int)] 5)).drew
      go_wp2_with fail
      refine (HNo.out _ HB6.out).mono ?_
      rintro e w8 ⟨rfl, hb8⟩
      have HB8 := hide (HB6.out.trans (hb8.mono HB6.out.size))
      clear hb8 HB6
      go_wp2_with fail
      refine (HF.out _ HB8.out).mono ?_
      rintro e w9 ⟨rfl, hb9⟩
      have HB9 := hide (HB8.out.trans (hb9.mono HB8.out.size))
      clear hb9 HB8
      go_wp2_with fail
      refine (HFK.out _).mono ?_
      rintro e w10 ⟨rfl, hb10⟩
      have HB10 := hide (HB9.out.trans (hb10.mono HB9.out.size))
      have hk32 : (K.size : Int) = 32 := by rw [HK.out]; rfl
      clear hb10 HB9
      go_wp2_with fail
      go_ret
      exact ⟨rfl, HB10.out⟩
  · have HI := hide (opens_to x k s n w hs1 h0 hT hM)
    have HS := hide (fun W => sOpenFile_any k s n W (by omega))
    unfold OpenFPost at HS
    rw [(open_no hw).1, (open_no hw).2] at HI HS
    clear hw
    go_wp2_with fail
    refine (HI.out _ HB1.out).mono ?_
    rintro e w2 ⟨rfl, hb2⟩
    have HB2 := hide (HB1.out.trans (hb2.mono HB1.out.size))
    clear hb2 HB1
    go_wp2_with fail
    refine (HS.out _).mono ?_
    rintro e w3 ⟨rfl, hb3⟩
    have HB3 := hide (HB2.out.trans (hb3.mono HB2.out.size))
    clear hb3 HB2
    go_wp2_with fail
    go_ret
    exact ⟨rfl, HB3.out⟩

theorem law_files (a0 : Option Addr) (len0 cap0 : Nat) (z0 : List Int) (w : World) (w0 : IsRow .u8 w a0 len0 cap0 z0) (h0 : 1 < w.heap.size) (hT : Hid (CrcTabIn w)) (x : Addr) (hM : Hid (MisIn x w)) :
    Calls Tryd.prog 5 #[.slice a0 len0 cap0] w fun e w' => e = .returned (.bool true) ∧ Below w.heap.size w w' := by
  obtain ⟨h1, h2⟩ := w0.code
  have := files_core x a0 cap0 (z0.take len0) w h2 h0 hT hM
  rwa [h1] at this
end Go.Proofs.YtakjjfbocokpaaaDoor
