/-
  The walk of laws.FnCha: it returns true.
-/
import Derived.Test.YtoggdlmgoaecdaaMathZ
import Derived.Test.YtoggdlmgoaecdaaMathK
import Derived.Test.YtoggdlmgoaecdaaDrawC
import Derived.Test.YtoggdlmgoaecdaaRowB
import Derived.Test.YtoggdlmgoaecdaaChaV
import Derived.Test.YtoggdlmgoaecdaaChaX
import Derived.Test.YtoggdlmgoaecdaaHexS
import Derived.Deep.DeepCutAuto
import Derived.Deep.RegionHeld3
namespace Go.Proofs.Ytoggdlmgoaecdaa
open Go.ChangeShapes Go.WideShapes Go.ChangeAt Go.RowKit

theorem big_any (a : Option Addr) (n cap : Nat) (w : World) : Calls Try.prog 7 #[.slice a n cap] w fun e w' => e = .returned (.bool (decide ((1048576 : Int) < (n : Int)))) ∧ w = w' := by
  go_enter Try.func7, Try.ntmps7
  go_wp2
  go_ret
  exact ⟨rfl, rfl⟩

/-- The first number of a code lies between 0 and 255. -/
theorem at_zero {B : Nat} (a : Option Addr) (cap : Nat) (bs : List Int) (w : World) (hc : CodeAt B w a bs) (hm : bs.length ≤ 1048576) :
    Calls Try.prog 14 #[.slice a bs.length cap, .int .i64 0] w fun e w' => ∃ x : Int, e = .returned (.int .i64 x) ∧ 0 ≤ x ∧ x ≤ 255 ∧ w = w' := by
  by_cases h0 : 0 < bs.length
  · obtain ⟨b, off, rfl, _, hcell⟩ := hc.2 h0
    have c1 := hcell 0 h0
    rw [Nat.add_zero] at c1
    have hz : (0 : Int) ≤ (bs[0]?.getD 0) ∧ (bs[0]?.getD 0) ≤ (255 : Int) := by simpa [h0] using hc.1 (bs[0]) (List.getElem_mem h0)
    generalize bs[0]?.getD 0 = x at c1 hz
    obtain ⟨n, hn⟩ : ∃ n, n = bs.length := ⟨_, rfl⟩
    rw [← hn] at h0 hm ⊢
    clear hcell hn hc
    go_enter Try.func14, Try.ntmps14
    go_wp2
    go_ret
    exact ⟨x, rfl, hz.1, hz.2, rfl⟩
  · obtain ⟨n, hn⟩ : ∃ n, n = bs.length := ⟨_, rfl⟩
    rw [← hn] at h0 hm ⊢
    clear hn hc
    go_enter Try.func14, Try.ntmps14
    go_wp2
    go_ret
    exact ⟨_, rfl, by omega, by omega, rfl⟩

theorem below_drewN {B : Nat} {a b : World} (h : Below B a b) (n : Nat) : Below B a (b.drewN n) := ⟨h.os, h.tape, h.output, h.size, h.block⟩
theorem cut_mk (l : List UInt8) (d : Nat) : (ByteArray.mk l.toArray).extract d l.length = ⟨(l.drop d).toArray⟩ := by
  have := ext_drop (ByteArray.mk l.toArray) d
  rw [size_mk] at this
  exact this
def kk (j : Nat) : List UInt8 := (List.range j).map UInt8.ofNat
theorem kk_succ (j : Nat) : kk (j + 1) = kk j ++ [UInt8.ofNat j] := by simp [kk, List.range_succ]
theorem length_kk (j : Nat) : (kk j).length = j := by simp [kk]
theorem kk_all : kk 32 = knownKey := by decide +kernel
theorem known_call : blockV (bl ⟨(kk 32).toArray⟩) 1 (bl ⟨#[0, 0, 0, 9, 0, 0, 0, 74, 0, 0, 0, 0]⟩) = knownBlock := by
  show blockV (kk 32) 1 knownNonce = _
  rw [kk_all, blockV, if_pos (by decide)]
  exact known_block
theorem isEmpty_ne (V : List UInt8) (h : V ≠ []) : V.isEmpty = false := by
  cases V
  · exact absurd rfl h
  · rfl
theorem strOk_ne {k : List UInt8} {c : Int} {n t V : List UInt8} (h : V ≠ []) (e : V = streamV k c n t) : StrOk k c n t := by
  refine Decidable.byContradiction fun hn => h ?_
  rw [e, streamV_no hn]
theorem bl_mk3 (l : List UInt8) : bl ⟨l.toArray⟩ = l := rfl

set_option maxHeartbeats 8000000 in
set_option maxRecDepth 40000 in
theorem cha_core (a : Option Addr) (cap : Nat) (bs : List Int) (w : World) (hc : CodeAt w.heap.size w a bs) :
    Calls Try.prog 3 #[.slice a bs.length cap] w fun e w' => e = .returned (.bool true) ∧ Below w.heap.size w w' := by
  have HC := hide hc
  clear hc
  by_cases hbig : 1048576 < bs.length
  · have d0 : decide ((1048576 : Int) < (bs.length : Int)) = true := decide_eq_true (by omega)
    go_enter Try.func3, Try.ntmps3
    go_wp2_with (go_at_call 7; refine (big_any _ _ _ _).mono ?_; rw [d0]; rintro e w' ⟨rfl, rfl⟩)
    go_ret
    exact ⟨rfl, Below.refl _ _⟩
  · have d0 : decide ((1048576 : Int) < (bs.length : Int)) = false := decide_eq_false (by omega)
    have hm : bs.length ≤ 1048576 := by omega
    clear hbig
    go_enter Try.func3, Try.ntmps3
    go_wp2_with fail
    refine (big_any _ _ _ _).mono ?_
    rw [d0]
    rintro e w' ⟨rfl, rfl⟩
    clear d0
    go_wp2_with fail
    refine (drawCha_any a cap bs w (Nat.le_refl _) HC.out hm).mono ?_
    rintro e w1 ⟨k, s, t, n, rfl, hn0, hn1, htl, hb1⟩
    have HB1 := hide hb1
    clear hb1
    go_wp2_with fail
    refine (iStream ⟨k.toArray⟩ ⟨s.toArray⟩ ⟨t.toArray⟩ n w1 ⟨by omega, by omega⟩ (by rw [size_mk]; omega)).mono ?_
    rw [bl_mk3, bl_mk3, bl_mk3]
    rintro e w2 ⟨rfl, hb2⟩
    have HB2 := hide (HB1.out.trans (hb2.mono HB1.out.size))
    clear hb2 HB1
    go_wp2_with fail
    refine (sStream ⟨k.toArray⟩ ⟨s.toArray⟩ ⟨t.toArray⟩ n w2 ⟨by omega, by omega⟩ (by rw [size_mk]; omega)).mono ?_
    rw [bl_mk3, bl_mk3, bl_mk3]
    rintro e w3 ⟨rfl, hb3⟩
    have HB3 := hide (HB2.out.trans (hb3.mono HB2.out.size))
    clear hb3 HB2
    obtain ⟨V, hV⟩ : ∃ V, V = streamV k n s t := ⟨_, rfl⟩
    rw [← hV]
    have HV := hide hV
    clear hV
    go_upto_region 7 with (fail)
    go_cut [49] from 17 (fun s49 wc => s49 = .bool false ∧ Hid (Below w.heap.size w wc))
    case first =>
      by_cases hE : V = []
      · have hVe : V.isEmpty = true := by rw [hE]; rfl
        clear hE
        go_wp2_with fail
        go_meet
        exact ⟨rfl, HB3⟩
      · have hVn := isEmpty_ne V hE
        have hO := strOk_ne hE HV.out
        have HF := hide (HV.out.trans (streamV_ok hO))
        have hVl : V.length = t.length := by rw [HF.out, length_strL]
        have HT := hide (show streamV k n s V = t by rw [HF.out]; exact streamV_twice hO)
        have d1 : ((V.length : Int) != (t.length : Int)) = false := by rw [hVl]; simp
        clear hE hO
        go_wp2_with fail
        refine (iStream ⟨k.toArray⟩ ⟨s.toArray⟩ ⟨V.toArray⟩ n w3 ⟨by omega, by omega⟩ (by rw [size_mk]; omega)).mono ?_
        rw [bl_mk3, bl_mk3, bl_mk3, HT.out]
        rintro e w4 ⟨rfl, hb4⟩
        have HB4 := hide (HB3.out.trans (hb4.mono HB3.out.size))
        clear hb4 HB3
        go_wp2_with fail
        go_meet
        exact ⟨rfl, HB4⟩
    case rest =>
      obtain ⟨rfl, HB4⟩ := hcut
      clear HB3
      go_upto_region 9 with (fail)
      go_cut [68] from 17 (fun s68 wd => s68 = .bool false ∧ Hid (Below w.heap.size w wd))
      case first =>
        by_cases hl : 64 < t.length
        · have d1 : decide ((64 : Int) < (t.length : Int)) = true := decide_eq_true (by omega)
          by_cases hE : V = []
          · have hVe : V.isEmpty = true := by rw [hE]; rfl
            clear hE
            go_quiet (fail)
            go_wp2_with fail
            go_meet
            exact ⟨rfl, below_drewN HB4.out _⟩
          · have hVn := isEmpty_ne V hE
            have hO := strOk_ne hE HV.out
            have HF := hide (HV.out.trans (streamV_ok hO))
            have hVl : V.length = t.length := by rw [HF.out, length_strL]
            have HT := hide (show streamV k (n + 1) s (t.drop 64) = V.drop 64 by rw [HF.out]; exact strL_shift hO hl)
            have i1 : (64 : Int) ≤ (V.length : Int) := by omega
            have i2 : (64 : Int) ≤ (t.length : Int) := by omega
            have hwn : IntKind.i64.wrap (n + 1) = n + 1 := by rw [IntKind.wrap_i64]; omega
            have eV : (ByteArray.mk V.toArray).extract 64 V.length = ⟨(V.drop 64).toArray⟩ := cut_mk V 64
            have eT : (ByteArray.mk t.toArray).extract 64 t.length = ⟨(t.drop 64).toArray⟩ := cut_mk t 64
            have H9 := hide (fun W => iStream ⟨k.toArray⟩ ⟨s.toArray⟩ ⟨(t.drop 64).toArray⟩ (n + 1) W ⟨by omega, by omega⟩ (by rw [size_mk, List.length_drop]; omega))
            rw [bl_mk3, bl_mk3, bl_mk3, HT.out] at H9
            clear hE hO hVl
            go_region_held3 (fun _ => True) (trivial) (first | (go_at_call 9; refine (H9.out _).mono ?_; rintro e w5 ⟨rfl, hb5⟩; have HB5 := hide (HB4.out.drew.trans (hb5.mono HB4.out.size)); clear hb5))
            all_goals go_wp2_with fail
            all_goals go_meet
            all_goals exact ⟨rfl, HB5⟩
        · have d1 : decide ((64 : Int) < (t.length : Int)) = false := decide_eq_false (by omega)
          go_quiet (fail)
          go_wp2_with fail
          go_meet
          exact ⟨rfl, below_drewN HB4.out _⟩
      case rest =>
        obtain ⟨rfl, HB5⟩ := hcut
        clear HB4 HV
        have hs5 := HB5.out.size
        go_wp2_with fail
        go_loopw [8, 9] (fun v i wr => ∃ j : Nat, j ≤ 32 ∧ i = .int .i64 (j : Int) ∧ Hid (Owns8 w.heap.size wr v (kk j)) ∧ Hid (Below w.heap.size w wr) ∧ w.heap.size ≤ wr.heap.size) (fun _ i _ => 32 - (intOf i).toNat)
        case atStart => exact ⟨0, by omega, rfl, Owns8.lit w.heap.size wc [] hs5 (by decide), HB5.out.alloc hs5 _, by rw [Go.Deep.nblk_alloc]; omega⟩
        case round =>
          obtain ⟨j, hj, rfl, HO, HB, hsz⟩ := hrel
          by_cases hj32 : j < 32
          · have HK := hide (kk_succ j)
            have HC0 := hide (show #[Value.int .u8 (j : Int)] = (byteVals [UInt8.ofNat j]).toArray by
              simp [byteVals]; omega)
            have hl : (kk j).length + 1 ≤ 1099511627776 := by rw [length_kk]; omega
            go_wp2_with (at_builtin; go_loud (refine append8 rfl (.tmp 74) (.tmp 77) rfl w.heap.size w wr _ (kk j) [UInt8.ofNat j] 1 _ rfl rfl HO HB hsz HC0.out rfl hl ?_); intro v' w' HO' HB' hsz')
            go_roundw
            case rel => exact ⟨j + 1, by omega, by go_num, by rw [HK.out]; exact HO', HB', by omega⟩
            case measure => simp [intOf]; omega
          · rw [show j = 32 by omega] at HO
            have hcv := run_convOwn w.heap.size wr _ _ HO.out
            go_wp2_with fail
            refine (iBlock_any _ _ _ _).mono ?_
            rw [known_call]
            rintro e w6 ⟨rfl, hb6⟩
            have HB6 := hide (HB.out.trans (hb6.mono hsz))
            clear hb6 HB hcv
            go_wp2_with fail
            refine (sHex_any _ _ (by rw [size_mk]; decide)).mono ?_
            rw [bl_mk3, known_hex]
            rintro e w7 ⟨rfl, hb7⟩
            have HB7 := hide (HB6.out.trans (hb7.mono HB6.out.size))
            clear hb7 HB6
            go_wp2_with fail
            refine (at_zero a cap bs _ (HC.out.below HB7.out) hm).mono ?_
            rintro e w8 ⟨x, rfl, hx0, hx1, rfl⟩
            go_wp2_with fail
            refine (iNonce_any 3 x _).mono ?_
            rintro e w9 ⟨rfl, hb9⟩
            have HB9 := hide (HB7.out.trans (hb9.mono HB7.out.size))
            have hl9 : (nonceL 3 x).length = 12 := length_nonceL 3 x ⟨by omega, by omega, hx0, by omega⟩
            clear hb9 HB7
            go_wp2_with fail
            go_ret
            exact ⟨rfl, HB9.out⟩

theorem law_cha (a0 : Option Addr) (len0 cap0 : Nat) (z0 : List Int) (w : World) (w0 : IsRow .u8 w a0 len0 cap0 z0) :
    Calls Try.prog 3 #[.slice a0 len0 cap0] w fun e w' => e = .returned (.bool true) ∧ Below w.heap.size w w' := by
  obtain ⟨h1, h2⟩ := w0.code
  have := cha_core a0 cap0 (z0.take len0) w h2
  rwa [h1] at this
end Go.Proofs.Ytoggdlmgoaecdaa
