/-
  The walk of laws.FnDev: it returns true.
-/
import Derived.Test.YtnbaffdonbnocaaMathQ
import Derived.Test.YtnbaffdonbnocaaDrawH
import Derived.Test.YtnbaffdonbnocaaRowB
import Derived.Deep.QuietTactic
import Derived.BigQuiet
namespace Go.Proofs.Ytnbaffdonbnocaa
open Go.ChangeShapes Go.WideShapes Go.ChangeAt Go.RowKit

theorem big_any (a : Option Addr) (n cap : Nat) (w : World) : Calls Try.prog 9 #[.slice a n cap] w fun e w' => e = .returned (.bool (decide ((1048576 : Int) < (n : Int)))) ∧ w' = w := by
  go_enter Try.func9, Try.ntmps9
  go_wp2
  go_ret
  exact ⟨rfl, rfl⟩
/-- as DevBPost, over letters -/
def DevLPost (w : World) (S : List ByteArray) (L : List Slot) (x : Int) (b : Bool) (e : Ending) (w' : World) : Prop :=
  ∃ (a5 : Option Addr) (c5 : Nat) (a6 : Option Addr) (c6 : Nat), e = .returned (.tuple #[.agg #[.slice a5 S.length c5, .slice a6 L.length c6, .int .i64 x], .bool b]) ∧ OwnsT 0 w' (.slice a5 S.length c5) S ∧ OwnsS 0 w' (.slice a6 L.length c6) L ∧ Below w.heap.size w w'
theorem DevBPost.letters {w : World} {R : DevR} {e : Ending} {w' : World} (h : DevBPost w R e w') : DevLPost w R.S R.L R.x R.ok e w' := by
  obtain ⟨v, u, rfl, ht, ho, hb⟩ := h
  obtain ⟨a5, c5, rfl, _⟩ := ht.form
  obtain ⟨a6, c6, rfl, _⟩ := ho.form
  exact ⟨a5, c5, a6, c6, rfl, ht.mono (Nat.zero_le _), ho.mono (Nat.zero_le _), hb⟩

theorem length_putV' (S : List ByteArray) (L : List Slot) (x t : Int) (k : ByteArray) : (putV S L x t k).S.length ≤ S.length ∧ (putV S L x t k).L.length ≤ L.length + 1 := by
  unfold putV
  split
  · split
    · simp
    · simp
  · simp
theorem put_letters (S : List ByteArray) (L : List Slot) (x t : Int) (k : ByteArray) (hl : S.length ≤ 16 ∧ L.length ≤ 22) : ∃ (rS : List ByteArray) (rL : List Slot) (rx : Int) (rk : Bool), (rS.length ≤ 16 ∧ rL.length ≤ 23) ∧ (rk = true → readS rS rL rx t = k ∧ readB rS rL rx t = true ∧ rx = x + 1 ∧ 0 ≤ x ∧ x ≤ 1000000) ∧
    (∀ W v u, OwnsT 0 W v S → OwnsS 0 W u L → Calls Try.prog 16 #[.agg #[v, u, .int .i64 x], .int .i64 t, .string k] W (DevLPost W rS rL rx rk)) ∧
    (∀ W v u, OwnsT 0 W v S → OwnsS 0 W u L → Calls Try.prog 17 #[.agg #[v, u, .int .i64 x], .int .i64 t, .string k] W (DevLPost W rS rL rx rk)) := by
  have h := length_putV' S L x t k
  refine ⟨(putV S L x t k).S, (putV S L x t k).L, (putV S L x t k).x, (putV S L x t k).ok, ⟨by omega, by omega⟩, fun h => read_put h, fun W v u h1 h2 => ?_, fun W v u h1 h2 => ?_⟩
  · exact (iDevPut_any 0 0 v u S L x t k W h1 (by omega) h2 (by omega)).mono fun e w' hp => hp.letters
  · exact (sDevPut_any 0 0 v u S L x t k W h1 (by omega) h2 (by omega)).mono fun e w' hp => hp.letters

set_option maxHeartbeats 16000000 in
set_option maxRecDepth 100000 in
theorem dev_core (a : Option Addr) (cap : Nat) (bs : List Int) (w : World) (hc : CodeAt w.heap.size w a bs) :
    Calls Try.prog 3 #[.slice a bs.length cap] w fun e w' => e = .returned (.bool true) ∧ Below w.heap.size w w' := by
  have HC := hide hc
  clear hc
  go_enter Try.func3, Try.ntmps3
  go_wp2_with fail
  refine (big_any a bs.length cap w).mono ?_
  rintro e w0 ⟨rfl, rfl⟩
  by_cases hbig : (1048576 : Int) < (bs.length : Int)
  · have hd : decide ((1048576 : Int) < (bs.length : Int)) = true := decide_eq_true hbig
    rw [hd]
    clear hd hbig
    go_wp2_with fail
    go_ret
    exact ⟨rfl, Below.refl _ _⟩
  have hd : decide ((1048576 : Int) < (bs.length : Int)) = false := decide_eq_false hbig
  rw [hd]
  have HM := hide (show bs.length ≤ 1048576 by omega)
  clear hd hbig
  go_wp2_with fail
  refine (drawDevFall_any a cap bs w0 (Nat.le_refl _) HC.out HM.out).mono ?_
  rintro e w1 ⟨a1, n1, e1, S, a2, n2, e2, L, x, t, rfl, ht1, ho1, hl1, htt, hb1⟩
  obtain rfl := ht1.len
  obtain rfl := ho1.len
  have HL := hide hl1
  obtain ⟨W2, hW2⟩ : ∃ W2, W2 = w1.alloc (.cells #[.slice a1 S.length e1, .slice a2 L.length e2, .int .i64 x] 27) := ⟨_, rfl⟩
  have HB2 := hide (show Below w0.heap.size w0 W2 from hW2 ▸ hb1.alloc hb1.size _)
  have HD2 := hide (show BoxB 27 W2 w1.heap.size (.slice a1 S.length e1) (.slice a2 L.length e2) (.int .i64 x) from hW2 ▸ BoxB.new _ w1 _ _ _)
  have HT2 := hide (show OwnsT 0 W2 (.slice a1 S.length e1) S from hW2 ▸ (ht1.mono (Nat.zero_le _)).alloc _)
  have HO2 := hide (show OwnsS 0 W2 (.slice a2 L.length e2) L from hW2 ▸ (ho1.mono (Nat.zero_le _)).alloc _)
  have HTT := hide htt
  clear ht1 ho1 hb1 hl1 htt
  go_wp2_with fail
  rw [← hW2]
  clear hW2
  have HF := hide (fun W v u (h1 : OwnsT 0 W v S) (h2 : OwnsS 0 W u L) => (iDevFall_any 0 0 v u S L x t W h1 (by have := HL.out; omega) h2 (by have := HL.out; omega) HTT.out).mono fun e w' hp => hp.letters)
  have HOK := hide (fun W (h1 : OwnsT 0 W (.slice a1 S.length e1) S) (h2 : OwnsS 0 W (.slice a2 L.length e2) L) => sDevOk_any a1 a2 e1 e2 S L x W h1.rd (by have := HL.out; omega) h2.rd (by have := HL.out; omega))
  cases hd : devOkB S L x with
  | false =>
    rw [fallV_bad hd] at HF
    rw [hd] at HOK
    clear hd
    refine (HF.out _ _ _ HT2.out HO2.out).mono ?_
    rintro e w3 ⟨a5, c5, a6, c6, rfl, ht3, ho3, hb3⟩
    have HD3 := hide (HD2.out.below hb3 HD2.out.lt)
    have HB3 := hide (HB2.out.trans (hb3.mono HB2.out.size))
    have HT3 := hide (HT2.out.below hb3 (Nat.le_refl _))
    have HO3 := hide (HO2.out.below hb3 (Nat.le_refl _))
    clear ht3 ho3 hb3 HD2 HB2 HT2 HO2
    obtain ⟨W4, hW4⟩ : ∃ W4, W4 = w3.alloc (.cells #[.slice a5 0 c5, .slice a6 0 c6, .int .i64 0] 27) := ⟨_, rfl⟩
    have HX4 := hide (show BoxB 27 W4 w3.heap.size (.slice a5 0 c5) (.slice a6 0 c6) (.int .i64 0) from hW4 ▸ BoxB.new _ w3 _ _ _)
    have HB4 := hide (show Below w0.heap.size w0 W4 from hW4 ▸ HB3.out.alloc HB3.out.size _)
    have HT4 := hide (show OwnsT 0 W4 _ _ from hW4 ▸ HT3.out.alloc _)
    have HO4 := hide (show OwnsS 0 W4 _ _ from hW4 ▸ HO3.out.alloc _)
    obtain ⟨c0, c1, c2⟩ := HD3.out.cells
    have hlt3 := HD3.out.lt
    go_wp2_with fail
    rw [← hW4]
    clear hW4 HB3 HT3 HO3 HD3 c0 c1 c2
    refine (HOK.out _ HT4.out HO4.out).mono ?_
    rintro e w5 ⟨rfl, hb5⟩
    have HB5 := hide (HB4.out.trans (hb5.mono HB4.out.size))
    obtain ⟨c0, c1, c2⟩ := (HX4.out.below hb5 HX4.out.lt).cells
    clear hb5
    go_wp2_with fail
    go_ret
    exact ⟨rfl, HB5.out⟩
  | true =>
    have HG := hide (yes_iff.1 hd)
    rw [fallV_ok hd] at HF
    rw [hd] at HOK
    clear hd
    obtain ⟨T, hT⟩ : ∃ T, T = landL S L (maskB t) L.length := ⟨_, rfl⟩
    have HTl := hide (show T.length = S.length by rw [hT, length_landL])
    have HTm := hide (show ∀ i : Nat, st T i = st S i ∨ ∃ k, k < L.length ∧ tn L k = i ∧ ky L k = st T i from fun i => by rw [hT]; exact landL_mem S.length rfl HG.out.2.1.2 L.length (Nat.le_refl _) i)
    have HTg := hide (show DevGood T [] x from hT ▸ landL_good HG.out)
    rw [← hT] at HF
    clear hT
    have HRX := hide (fun W (a5 a6 : Option Addr) (c5 c6 : Nat) (j : Nat) (hj : j < S.length) (h1 : StrRd W W.heap.size a5 T) => show Calls Try.prog 13 #[.agg #[.slice a5 T.length c5, .slice a6 0 c6, .int .i64 x], .int .i64 j] W (ReadPost W (st T j) true) from by
      have h := iDevRead_any a5 a6 c5 c6 T [] x j W h1 (by have := HTl.out; have := HL.out; omega) (fun hp => by simp at hp) (by simp)
      rw [readB_good HTg.out j (by rw [HTl.out]; exact hj), readS_good HTg.out j (by rw [HTl.out]; exact hj)] at h
      have e : lastF T [] j ([] : List Slot).length = st T j := by simp [lastF]
      rw [e] at h
      exact h)
    have HRD := hide (fun W (j : Nat) (hj : j < S.length) (h1 : StrRd W W.heap.size a1 S) (h2 : SlotRd W W.heap.size a2 L) => show Calls Try.prog 13 #[.agg #[.slice a1 S.length e1, .slice a2 L.length e2, .int .i64 x], .int .i64 j] W (ReadPost W (readS S L x j) true) from by
      have h := iDevRead_any a1 a2 e1 e2 S L x j W h1 (by have := HL.out; omega) h2 (by have := HL.out; omega)
      rw [readB_good HG.out j hj] at h
      exact h)
    obtain ⟨Y, hY⟩ : ∃ Y, Y = landL S L (fun _ => true) L.length := ⟨_, rfl⟩
    have HYl := hide (show Y.length = S.length by rw [hY, length_landL])
    have HFL := hide (fun W (h1 : OwnsT 0 W (.slice a1 S.length e1) S) (h2 : OwnsS 0 W (.slice a2 L.length e2) L) => show Calls Try.prog 14 #[.agg #[.slice a1 S.length e1, .slice a2 L.length e2, .int .i64 x]] W (DevLPost W Y [] x true) from by
      have h := (iDevFlush_any 0 0 _ _ S L x W h1 (by have := HL.out; omega) h2 (by have := HL.out; omega)).mono fun e w' hp => hp.letters
      rw [fallV_ok (yes_true HG.out), ← hY] at h
      exact h)
    have HRY := hide (fun W (a5 a6 : Option Addr) (c5 c6 : Nat) (j : Nat) (hj : j < S.length) (h1 : StrRd W W.heap.size a5 Y) => show Calls Try.prog 13 #[.agg #[.slice a5 Y.length c5, .slice a6 0 c6, .int .i64 x], .int .i64 j] W (ReadPost W (readS S L x j) true) from by
      have h := iDevRead_any a5 a6 c5 c6 Y [] x j W h1 (by have := HYl.out; have := HL.out; omega) (fun hp => by simp at hp) (by simp)
      have hg : DevGood Y [] x := hY ▸ landL_good HG.out
      rw [readB_good hg j (by rw [HYl.out]; exact hj), show readS Y [] x j = readS S L x j from by rw [hY]; exact readS_flush HG.out j hj] at h
      exact h)
    obtain ⟨n, hn⟩ : ∃ n, S.length = n := ⟨_, rfl⟩
    obtain ⟨m, hm⟩ : ∃ m, L.length = m := ⟨_, rfl⟩
    have HN := hide hn
    have HMm := hide hm
    rw [HTl.out] at HRX
    rw [HYl.out] at HRY
    have HTn := hide (show T.length = n by rw [HTl.out, hn])
    have HYn := hide (show Y.length = n by rw [HYl.out, hn])
    have hl := HL.out
    rw [hn] at HOK HT2 HD2 HRX HRD HFL HRY hl ⊢
    rw [hm] at HOK HO2 HD2 HRD HFL HTm hl ⊢
    obtain ⟨hln, hlm⟩ := hl
    clear hY hn hm HTg
    refine (HF.out _ _ _ HT2.out HO2.out).mono ?_
    rintro e w3 ⟨a5, c5, a6, c6, rfl, ht3, ho3, hb3⟩
    dsimp only [List.length_nil] at ht3 ho3 ⊢
    rw [HTn.out] at ht3 ⊢
    have HD3 := hide (HD2.out.below hb3 HD2.out.lt)
    have HB3 := hide (HB2.out.trans (hb3.mono HB2.out.size))
    have HT3 := hide (HT2.out.below hb3 (Nat.le_refl _))
    have HO3 := hide (HO2.out.below hb3 (Nat.le_refl _))
    obtain ⟨W4, hW4⟩ : ∃ W4, W4 = w3.alloc (.cells #[.slice a5 n c5, .slice a6 0 c6, .int .i64 x] 27) := ⟨_, rfl⟩
    have HX4 := hide (show BoxB 27 W4 w3.heap.size (.slice a5 n c5) (.slice a6 0 c6) (.int .i64 x) from hW4 ▸ BoxB.new _ w3 _ _ _)
    have HD4 := hide (show BoxB 27 W4 w1.heap.size _ _ _ from hW4 ▸ HD3.out.alloc _)
    have HB4 := hide (show Below w0.heap.size w0 W4 from hW4 ▸ HB3.out.alloc HB3.out.size _)
    have HT4 := hide (show OwnsT 0 W4 (.slice a1 n e1) S from hW4 ▸ HT3.out.alloc _)
    have HO4 := hide (show OwnsS 0 W4 (.slice a2 m e2) L from hW4 ▸ HO3.out.alloc _)
    have HTx := hide (show OwnsT 0 W4 (.slice a5 n c5) T from hW4 ▸ ht3.alloc _)
    have HOx := hide (show OwnsS 0 W4 (.slice a6 0 c6) [] from hW4 ▸ ho3.alloc _)
    obtain ⟨c0, c1, c2⟩ := HD3.out.cells
    have hlt3 := HD3.out.lt
    go_wp2_with fail
    rw [← hW4]
    clear hW4 HB3 HT3 HO3 HD3 c0 c1 c2 hlt3 ht3 ho3 hb3 HD2 HB2 HT2 HO2
    refine (HOK.out _ HT4.out HO4.out).mono ?_
    rintro e w5 ⟨rfl, hb5⟩
    have HX5 := hide (HX4.out.below hb5 HX4.out.lt)
    have HD5 := hide (HD4.out.below hb5 HD4.out.lt)
    have HB5 := hide (HB4.out.trans (hb5.mono HB4.out.size))
    have HT5 := hide (HT4.out.below hb5 (Nat.le_refl _))
    have HO5 := hide (HO4.out.below hb5 (Nat.le_refl _))
    have HTx5 := hide (HTx.out.below hb5 (Nat.le_refl _))
    have HOx5 := hide (HOx.out.below hb5 (Nat.le_refl _))
    clear hb5 HX4 HD4 HB4 HT4 HO4 HTx HOx HF HOK HTT
    have HRdT := hide (HTx5.out.rd)
    go_wp2_with fail
    go_loopw [7, 8, 9, 10, 11] (fun i _ _ _ _ wr => ∃ j : Nat, i = .int .i64 j ∧ j ≤ n ∧ Hid (Below w5.heap.size w5 wr)) (fun i _ _ _ _ _ => n - (intOf i).toNat)
    case atStart => exact ⟨0, rfl, Nat.zero_le _, Below.refl _ _⟩
    case round =>
      obtain ⟨j, rfl, hj, HBr⟩ := hrel
      have HDr := hide (HD5.out.below HBr.out HD5.out.lt)
      have HXr := hide (HX5.out.below HBr.out HX5.out.lt)
      obtain ⟨c0, c1, c2⟩ := HDr.out.cells
      obtain ⟨x0, x1, x2⟩ := HXr.out.cells
      by_cases hlt : j < n
      · go_wp2_with fail
        refine (HRX.out _ a5 a6 c5 c6 j hlt ((HRdT.out.below HBr.out (Nat.le_refl _)).mono HBr.out.size)).mono ?_
        rintro e w6 ⟨rfl, hb6⟩
        have HB6 := hide (HBr.out.trans (hb6.mono HBr.out.size))
        have HD6 := hide (HD5.out.below HB6.out HD5.out.lt)
        clear hb6 HDr HXr c0 c1 c2 x0 x1 x2
        obtain ⟨c0, c1, c2⟩ := HD6.out.cells
        obtain ⟨b, o, rfl, hb, hcc⟩ := (HT5.out.below HB6.out (Nat.le_refl _)).rd (by rw [HN.out]; omega)
        have d0 := hcc j (by rw [HN.out]; exact hlt)
        have HTj := hide (HTm.out j)
        obtain ⟨sT, hsT⟩ : ∃ sT, sT = st T j := ⟨_, rfl⟩
        obtain ⟨sS, hsS⟩ : ∃ sS, sS = st S j := ⟨_, rfl⟩
        rw [← hsT] at HTj ⊢
        rw [← hsS] at HTj d0
        clear hcc hsT hsS
        have hjn : (j : Int) < (n : Int) := by omega
        have HRo := hide (HO5.out.below HB6.out (Nat.le_refl _)).rd
        go_wp2_with fail
        go_loopw [10, 11] (fun q i wr => ∃ (bb : Bool) (k : Nat), q = .bool bb ∧ i = .int .i64 k ∧ k ≤ m ∧ wr = w6 ∧ Hid (sT = sS → bb = true) ∧ Hid (∀ i, i < k → tn L i = j → ky L i = sT → bb = true)) (fun _ i _ => m - (intOf i).toNat)
        case atStart => exact ⟨_, 0, rfl, rfl, Nat.zero_le _, rfl, hide (fun h => by rw [h]; simp), hide (fun i hi => by omega)⟩
        case round =>
          obtain ⟨bb, k, rfl, rfl, hk, rfl, HE1, HE2⟩ := hrel
          by_cases hkm : k < m
          · obtain ⟨b', o', rfl, hb', hc'⟩ := HRo.out (by rw [HMm.out]; omega)
            obtain ⟨f0, f1⟩ := hc' k (by rw [HMm.out]; exact hkm)
            clear hc'
            have hki : (k : Int) < (m : Int) := by omega
            cases bb with
            | true =>
              go_wp2_with fail
              go_roundw
              case rel => exact ⟨true, k + 1, rfl, by go_num, by omega, by trivial, hide (fun _ => rfl), hide (fun _ _ _ _ => rfl)⟩
              case measure => simp [intOf]; omega
            | false =>
              by_cases h1 : tn L k = (j : Int)
              · have t0 : (tn L k == (j : Int)) = true := by rw [beq_iff_eq]; exact h1
                by_cases h2 : ky L k = sT
                · have HE3 := hide (show ∀ i, i < k + 1 → tn L i = j → ky L i = sT → true = true from fun _ _ _ _ => rfl)
                  rw [h2] at f1
                  clear h1 h2
                  go_wp2_with fail
                  go_roundw
                  case rel => exact ⟨true, k + 1, by simp, by go_num, by omega, by trivial, hide (fun _ => rfl), HE3⟩
                  case measure => simp [intOf]; omega
                · have HE3 := hide (show ∀ (b3 : Bool), ∀ i, i < k + 1 → tn L i = j → ky L i = sT → b3 = true from fun b3 i hi e1 e2 => by
                    rcases Nat.lt_or_ge i k with h | h
                    · exact absurd (HE2.out i h e1 e2) (by simp)
                    · exact absurd (by rw [show i = k by omega] at e2; exact e2) h2)
                  have HE4 := hide (show ∀ (b3 : Bool), sT = sS → b3 = true from fun b3 e => absurd (HE1.out e) (by simp))
                  clear h1 h2
                  go_wp2_with fail
                  go_roundw
                  case rel => exact ⟨_, k + 1, rfl, by go_num, by omega, by trivial, hide (HE4.out _), hide (HE3.out _)⟩
                  case measure => simp [intOf]; omega
              · have t0 : (tn L k == (j : Int)) = false := by rw [beq_eq_false_iff_ne]; exact h1
                have HE3 := hide (show ∀ i, i < k + 1 → tn L i = j → ky L i = sT → false = true from fun i hi e1 e2 => by
                  rcases Nat.lt_or_ge i k with h | h
                  · exact HE2.out i h e1 e2
                  · exact absurd (by rw [show i = k by omega] at e1; exact e1) h1)
                clear h1
                go_wp2_with fail
                go_roundw
                case rel => exact ⟨false, k + 1, rfl, by go_num, by omega, by trivial, HE1, HE3⟩
                case measure => simp [intOf]; omega
          · have hb : bb = true := by
              rcases HTj.out with h | ⟨k', h1, h2, h3⟩
              · exact HE1.out h
              · exact HE2.out k' (by omega) h2 h3
            subst hb
            go_wp2_with fail
            go_roundw
            case rel => exact ⟨j + 1, by go_num, by omega, HB6⟩
            case measure => simp [intOf]; omega
      · have hjn : j = n := by omega
        subst hjn
        clear HRX HTm HRdT HX5 HXr x0 x1 x2
        go_wp2_with fail
        refine (HFL.out _ (HT5.out.below HBr.out (Nat.le_refl _)) (HO5.out.below HBr.out (Nat.le_refl _))).mono ?_
        rintro e w6 ⟨a7, c7, a8, c8, rfl, ht6, ho6, hb6⟩
        dsimp only [List.length_nil] at ht6 ho6 ⊢
        rw [HYn.out] at ht6 ⊢
        have HB6 := hide ((HB5.out.trans (HBr.out.mono HB5.out.size)).trans (hb6.mono (Nat.le_trans HB5.out.size HBr.out.size)))
        have HB56 := hide (HBr.out.trans (hb6.mono HBr.out.size))
        obtain ⟨W7, hW7⟩ : ∃ W7, W7 = w6.alloc (.cells #[.slice a7 j c7, .slice a8 0 c8, .int .i64 x] 27) := ⟨_, rfl⟩
        have HB7 := hide (show Below w0.heap.size w0 W7 from hW7 ▸ HB6.out.alloc HB6.out.size _)
        have HB57 := hide (show Below w5.heap.size w5 W7 from hW7 ▸ HB56.out.alloc HB56.out.size _)
        have HY7 := hide (show BoxB 27 W7 w6.heap.size (.slice a7 j c7) (.slice a8 0 c8) (.int .i64 x) from hW7 ▸ BoxB.new _ w6 _ _ _)
        have HTy := hide (show OwnsT 0 W7 (.slice a7 j c7) Y from hW7 ▸ ht6.alloc _)
        clear ht6 ho6 hb6 HB6 HB56 HDr c0 c1 c2
        go_wp2_with fail
        rw [← hW7]
        clear hW7
        refine (drawDevPut_any a cap bs W7 HB7.out.size (HC.out.keep fun k hk => HB7.out.block k hk) HM.out).mono ?_
        rintro e w8 ⟨b1, n1, f1, S', b2, n2, f2, L', x', t', k', rfl, ht8, ho8, hl8, hb8⟩
        obtain rfl := ht8.len
        obtain rfl := ho8.len
        obtain ⟨rS, rL, rx, rk, hRl, hRf, hRi, hRs⟩ := put_letters S' L' x' t' k' hl8
        have HRl := hide hRl
        have HRf := hide hRf
        have HRi := hide hRi
        have HRs := hide hRs
        clear hRl hRf hRi hRs
        generalize S'.length = n1 at *
        generalize L'.length = n2 at *
        obtain ⟨W9, hW9⟩ : ∃ W9, W9 = w8.alloc (.cells #[.slice b1 n1 f1, .slice b2 n2 f2, .int .i64 x'] 27) := ⟨_, rfl⟩
        have h79 : Below W7.heap.size W7 W9 := hW9 ▸ hb8.alloc hb8.size _
        have HB9 := hide (HB7.out.trans (h79.mono HB7.out.size))
        have HB59 := hide (HB57.out.trans (h79.mono HB57.out.size))
        have HY9 := hide (HY7.out.below h79 HY7.out.lt)
        have HTy9 := hide (HTy.out.below h79 (Nat.le_refl _))
        have HP9 := hide (show BoxB 27 W9 w8.heap.size (.slice b1 n1 f1) (.slice b2 n2 f2) (.int .i64 x') from hW9 ▸ BoxB.new _ w8 _ _ _)
        have HTp := hide (show OwnsT 0 W9 (.slice b1 n1 f1) S' from hW9 ▸ (ht8.mono (Nat.zero_le _)).alloc _)
        have HOp := hide (show OwnsS 0 W9 (.slice b2 n2 f2) L' from hW9 ▸ (ho8.mono (Nat.zero_le _)).alloc _)
        clear ht8 ho8 hl8 hb8 h79 HB7 HB57 HY7 HTy
        go_wp2_with fail
        rw [← hW9]
        clear hW9
        refine (HRi.out _ _ _ HTp.out HOp.out).mono ?_
        rintro e w10 ⟨b3, f3, b4, f4, rfl, ht10, ho10, hb10⟩
        generalize rS.length = m1 at *
        generalize rL.length = m2 at *
        obtain ⟨W11, hW11⟩ : ∃ W11, W11 = w10.alloc (.cells #[.slice b3 m1 f3, .slice b4 m2 f4, .int .i64 rx] 27) := ⟨_, rfl⟩
        have h911 : Below W9.heap.size W9 W11 := hW11 ▸ hb10.alloc hb10.size _
        have HB11 := hide (HB9.out.trans (h911.mono HB9.out.size))
        have HB511 := hide (HB59.out.trans (h911.mono HB59.out.size))
        have HY11 := hide (HY9.out.below h911 HY9.out.lt)
        have HTy11 := hide (HTy9.out.below h911 (Nat.le_refl _))
        have HP11 := hide (HP9.out.below h911 HP9.out.lt)
        have HTp11 := hide (HTp.out.below h911 (Nat.le_refl _))
        have HOp11 := hide (HOp.out.below h911 (Nat.le_refl _))
        have HZ11 := hide (show BoxB 27 W11 w10.heap.size (.slice b3 m1 f3) (.slice b4 m2 f4) (.int .i64 rx) from hW11 ▸ BoxB.new _ w10 _ _ _)
        have HTz := hide (show OwnsT 0 W11 (.slice b3 m1 f3) rS from hW11 ▸ ht10.alloc _)
        have HOz := hide (show OwnsS 0 W11 (.slice b4 m2 f4) rL from hW11 ▸ ho10.alloc _)
        obtain ⟨p0, p1, p2⟩ := (HP9.out.below hb10 HP9.out.lt).cells
        have hlp := (HP9.out.below hb10 HP9.out.lt).lt
        clear ht10 ho10 hb10 h911 HB9 HB59 HY9 HTy9 HP9 HTp HOp
        go_wp2_with fail
        rw [← hW11]
        clear hW11 p0 p1 p2 hlp
        refine (HRs.out _ _ _ HTp11.out HOp11.out).mono ?_
        rintro e w12 ⟨b5, f5, b6, f6, rfl, _, _, hb12⟩
        have HB12 := hide hb12
        clear hb12 HTp11 HOp11 HRi HRs HFL
        have HLz := hide (show rS.length = m1 from HTz.out.len)
        have HLy := hide (show rL.length = m2 from HOz.out.len)
        have HRZ := hide (fun W (h1 : StrRd W W.heap.size b3 rS) (h2 : SlotRd W W.heap.size b4 rL) => iDevRead_any b3 b4 f3 f4 rS rL rx t' W h1 (by have := HRl.out; have := HLz.out; omega) h2 (by have := HRl.out; have := HLy.out; omega))
        rw [HLz.out, HLy.out] at HRZ
        generalize rS.length = m3 at *
        generalize rL.length = m4 at *
        go_wp2_with fail
        go_loopw [21, 22, 23, 24, 25] (fun i _ _ _ _ wr => ∃ q : Nat, i = .int .i64 q ∧ q ≤ j ∧ Hid (Below W11.heap.size W11 wr)) (fun i _ _ _ _ _ => j - (intOf i).toNat)
        case atStart => exact ⟨0, rfl, Nat.zero_le _, hide (HB12.out.alloc HB12.out.size _)⟩
        case round =>
          obtain ⟨q, rfl, hq, HBq⟩ := hrel
          have HB5q := hide (HB511.out.trans (HBq.out.mono HB511.out.size))
          have HBw := hide (HB11.out.trans (HBq.out.mono HB11.out.size))
          obtain ⟨c0, c1, c2⟩ := (HD5.out.below HB5q.out HD5.out.lt).cells
          obtain ⟨y0, y1, y2⟩ := (HY11.out.below HBq.out HY11.out.lt).cells
          by_cases hqj : q < j
          · go_wp2_with fail
            refine (HRD.out _ q hqj (HT5.out.below HB5q.out (Nat.le_refl _)).rd (HO5.out.below HB5q.out (Nat.le_refl _)).rd).mono ?_
            rintro e w13 ⟨rfl, hb13⟩
            have HB13 := hide (HBq.out.trans (hb13.mono HBq.out.size))
            clear hb13 c0 c1 c2 y0 y1 y2
            obtain ⟨y0, y1, y2⟩ := (HY11.out.below HB13.out HY11.out.lt).cells
            go_wp2_with fail
            refine (HRY.out _ a7 a8 c7 c8 q hqj (HTy11.out.below HB13.out (Nat.le_refl _)).rd).mono ?_
            rintro e w14 ⟨rfl, hb14⟩
            have HB14 := hide (HB13.out.trans (hb14.mono HB13.out.size))
            clear hb14 HB13 y0 y1 y2
            generalize readS S L x q = rr
            go_wp2_with fail
            go_roundw
            case rel => exact ⟨q + 1, by go_num, by omega, HB14⟩
            case measure => simp [intOf]; omega
          · have hqj2 : q = j := by omega
            subst hqj2
            obtain ⟨z0, z1, z2⟩ := (HZ11.out.below HBq.out HZ11.out.lt).cells
            go_wp2_with fail
            refine (HRZ.out _ (HTz.out.below HBq.out (Nat.le_refl _)).rd (HOz.out.below HBq.out (Nat.le_refl _)).rd).mono ?_
            rintro e w13 ⟨rfl, hb13⟩
            have HB13 := hide (HBq.out.trans (hb13.mono HBq.out.size))
            have HBw13 := hide (HB11.out.trans (HB13.out.mono HB11.out.size))
            clear hb13 c0 c1 c2 y0 y1 y2 z0 z1 z2
            obtain ⟨y0, y1, y2⟩ := (HY11.out.below HB13.out HY11.out.lt).cells
            obtain ⟨z0, z1, z2⟩ := (HZ11.out.below HB13.out HZ11.out.lt).cells
            obtain ⟨p0, p1, p2⟩ := (HP11.out.below HB13.out HP11.out.lt).cells
            cases rk with
            | true =>
              obtain ⟨g1, g2, g3, g4, g5⟩ := HRf.out rfl
              rw [g1, g2]
              rw [g3] at z2
              clear g1 g2 g3
              go_wp2_with fail
              go_ret
              exact ⟨by simp, HBw13.out⟩
            | false =>
              generalize readS rS rL rx t' = r1
              generalize readB rS rL rx t' = r2
              go_wp2_with fail
              go_ret
              exact ⟨rfl, HBw13.out⟩

theorem law_dev (a0 : Option Addr) (len0 cap0 : Nat) (z0 : List Int) (w : World) (w0 : IsRow .u8 w a0 len0 cap0 z0) :
    Calls Try.prog 3 #[.slice a0 len0 cap0] w fun e w' => e = .returned (.bool true) ∧ Below w.heap.size w w' := by
  obtain ⟨h1, h2⟩ := w0.code
  have := dev_core a0 cap0 (z0.take len0) w h2
  rwa [h1] at this
end Go.Proofs.Ytnbaffdonbnocaa
