/-
  Texts of this proof, put together: LawBlocks.
-/
import Derived.Test.YtegamnpdhiohmaaPackBF
import Derived.Test.YtegamnpdhiohmaaPackBG
import Derived.Test.YtegamnpdhiohmaaPackAC
import Derived.Test.YtegamnpdhiohmaaPackAD
import Derived.Test.YtegamnpdhiohmaaPackAH
import Derived.Deep.DeepCutAuto

/-
  The walk of laws.FnBlocks: it returns true.
-/
namespace Go.Proofs.Ytegamnpdhiohmaa
open Go.ChangeShapes Go.WideShapes Go.ChangeAt Go.RowKit

/-- what is read of a block's own text, and of none -/
theorem back_block (L : List En) : (readKQ (showK L) = true ∧ showK L ≠ [] ∧ readK (showK L) = L ∧ L.length ≤ 16) ∨ (readKQ (showK L) = false ∧ showK L = []) := by
  by_cases h : blkOk L
  · left
    obtain ⟨h1, h2⟩ := readK_of h rfl
    exact ⟨h2, showK_pos h, h1, h.2.1⟩
  · right
    have h0 := showK_no h
    rw [h0]
    exact ⟨(readK_no (.inl rfl)).2, rfl⟩
set_option maxHeartbeats 4000000 in
set_option maxRecDepth 100000 in
theorem blocks_core (a : Option Addr) (cap : Nat) (bs : List Int) (w : World) (hc : CodeAt w.heap.size w a bs) :
    Calls Try.prog 3 #[.slice a bs.length cap] w fun e w' => e = .returned (.bool true) ∧ Below w.heap.size w w' := by
  have HC := hide hc
  obtain ⟨n, hn⟩ : ∃ n, n = bs.length := ⟨_, rfl⟩
  have HN := hide hn
  by_cases hbig : 1048576 < n
  · have hd : decide ((1048576 : Int) < (n : Int)) = true := decide_eq_true (by omega)
    rw [← hn]
    clear hn hc
    go_enter Try.func3, Try.ntmps3
    go_wp2_with fail
    refine (big_any a n cap _).mono ?_
    rintro e w1 ⟨rfl, rfl⟩
    rw [hd]
    go_wp2_with fail
    go_ret
    exact ⟨rfl, Below.refl _ _⟩
  have hd : decide ((1048576 : Int) < (n : Int)) = false := decide_eq_false (by omega)
  have HM := hide (show bs.length ≤ 1048576 by omega)
  have HAD := hide (drawShowBlock_any (B := w.heap.size) a cap bs w (Nat.le_refl _) hc HM.out)
  rw [← hn] at HAD ⊢
  clear hn hc hbig
  go_enter Try.func3, Try.ntmps3
  go_wp2_with fail
  refine (big_any a n cap _).mono ?_
  rintro e wb ⟨rfl, rfl⟩
  rw [hd]
  go_wp2_with fail
  refine HAD.out.mono ?_
  rintro e w1 ⟨v1, L, rfl, ho1, hl1, hb1⟩
  obtain ⟨a1, c1, rfl, hr1, _⟩ := ho1.form
  have HB1 := hide hb1
  have HR1 := hide hr1
  have HIS := hide (fun W (h : elEnt.Rd W W.heap.size a1 L) => iShowBlock_any a1 c1 L W h (by omega))
  have HSS := hide (fun W (h : elEnt.Rd W W.heap.size a1 L) => sShowBlock_any a1 c1 L W h (by omega))
  have HBK := hide (back_block L)
  have hVl := showK_len L
  obtain ⟨V, hV⟩ : ∃ V, V = showK L := ⟨_, rfl⟩
  rw [← hV] at HIS HSS HBK hVl
  have HIR := hide (fun W => iReadBlock_any ⟨V.toArray⟩ (by rw [size_of V]; omega) W)
  rw [bl_of V] at HIR
  unfold ReadKPost at HIR
  have HSE := hide (fun W b1 b2 d1 d2 (h1 : elEnt.Rd W W.heap.size b1 L) (h2 : elEnt.Rd W W.heap.size b2 L) => sameEnts_same b1 b2 d1 d2 L W h1 h2 (by omega))
  obtain ⟨m, hm⟩ : ∃ m, m = L.length := ⟨_, rfl⟩
  rw [← hm] at HIS HSS HSE ⊢
  have HMN := hide hm
  obtain ⟨X, hX⟩ : ∃ X, X = readK V := ⟨_, rfl⟩
  obtain ⟨Q, hQ⟩ : ∃ Q, Q = readKQ V := ⟨_, rfl⟩
  rw [← hX, ← hQ] at HIR HBK
  clear hV hm hX hQ ho1 hr1 hb1 HAD
  go_wp2_with fail
  refine (HIS.out _ HR1.out).mono ?_
  rintro e w2 ⟨rfl, hb2⟩
  have HB2 := hide (HB1.out.trans (hb2.mono HB1.out.size))
  have HR2 := hide ((HR1.out.below hb2 (Nat.le_refl _)).mono hb2.size)
  clear hb2 HB1 HR1 HIS
  go_wp2_with fail
  refine (HIR.out _).mono ?_
  rintro e w3 ⟨v3, rfl, ho3, hb3⟩
  obtain ⟨a3, c3, rfl, hr3, _⟩ := ho3.form
  have HB3 := hide (HB2.out.trans (hb3.mono HB2.out.size))
  have HR3 := hide ((HR2.out.below hb3 (Nat.le_refl _)).mono hb3.size)
  have HX3 := hide hr3
  obtain ⟨x, hx⟩ : ∃ x, x = X.length := ⟨_, rfl⟩
  rw [← hx]
  have HXN := hide hx
  clear hb3 ho3 hr3 hx HB2 HR2 HIR
  go_upto_region 6 with (fail)
  go_cut [41] from 23 to 41 (fun t wc => t = .bool false ∧ Hid (Below w.heap.size w wc))
  case first =>
    rcases HBK.out with ⟨hQ, hne, hXL, hl16⟩ | ⟨hQ, hV0⟩
    · have hve : V.isEmpty = false := by rw [List.isEmpty_eq_false_iff]; exact hne
      rw [hXL] at HX3 HXN
      have hxm : x = m := by rw [HXN.out, HMN.out]
      subst hQ
      subst hxm
      clear hne hXL HXN HMN HBK
      go_wp2_with fail
      refine (HSS.out _ HR3.out).mono ?_
      rintro e w4 ⟨rfl, hb4⟩
      have HB4 := hide (HB3.out.trans (hb4.mono HB3.out.size))
      have HR4 := hide ((HR3.out.below hb4 (Nat.le_refl _)).mono hb4.size)
      have HX4 := hide ((HX3.out.below hb4 (Nat.le_refl _)).mono hb4.size)
      clear hb4 HB3 HR3 HX3 HSS
      go_wp2_with fail
      refine (HSE.out _ _ _ _ _ HX4.out HR4.out).mono ?_
      rintro e w5 ⟨rfl, hb5⟩
      have HB5 := hide (HB4.out.trans (hb5.mono HB4.out.size))
      clear hb5
      go_wp2_with fail
      go_meet
      exact ⟨rfl, HB5⟩
    · subst hQ
      subst hV0
      clear HBK
      go_wp2_with fail
      refine (HSS.out _ HR3.out).mono ?_
      rintro e w4 ⟨rfl, hb4⟩
      have HB4 := hide (HB3.out.trans (hb4.mono HB3.out.size))
      clear hb4
      go_wp2_with fail
      go_meet
      exact ⟨rfl, HB4⟩
  case rest =>
  obtain ⟨rfl, HBc⟩ := hcut
  clear HB3 HR3 HX3 HSS HSE HBK
  have HRD := hide (drawReadBlock_any (B := w.heap.size) a cap bs wc HBc.out.size (HC.out.below HBc.out) HM.out)
  rw [← HN.out] at HRD
  go_wp2_with fail
  refine HRD.out.mono ?_
  rintro e w6 ⟨s6, rfl, hs6, hb6⟩
  have HB6 := hide (HBc.out.trans (hb6.mono HBc.out.size))
  have HIR := hide (fun W => iReadBlock_any s6 hs6 W)
  have HSR := hide (fun W => sReadBlock_any s6 hs6 W)
  unfold ReadKPost at HIR HSR
  have HKS := hide (fun h => (readK_show (s := bl s6) h).2)
  have hKl := readK_len (bl s6)
  obtain ⟨K, hK⟩ : ∃ K, K = readK (bl s6) := ⟨_, rfl⟩
  obtain ⟨R, hR⟩ : ∃ R, R = readKQ (bl s6) := ⟨_, rfl⟩
  rw [← hK, ← hR] at HIR HSR HKS
  rw [← hK] at hKl
  clear hK hR hb6 HRD HBc
  go_wp2_with fail
  refine (HIR.out _).mono ?_
  rintro e w7 ⟨v7, rfl, ho7, hb7⟩
  obtain ⟨a7, c7, rfl, hr7, _⟩ := ho7.form
  have HB7 := hide (HB6.out.trans (hb7.mono HB6.out.size))
  have HK7 := hide hr7
  have HSK := hide (fun W (h : elEnt.Rd W W.heap.size a7 K) => iShowBlock_any a7 c7 K W h (by omega))
  obtain ⟨y, hy⟩ : ∃ y, y = K.length := ⟨_, rfl⟩
  rw [← hy] at HSK ⊢
  clear hb7 ho7 hr7 hy HB6 HIR
  go_wp2_with fail
  refine (HSR.out _).mono ?_
  rintro e w8 ⟨v8, rfl, ho8, hb8⟩
  obtain ⟨a8, c8, rfl, _⟩ := ho8.form
  have HB8 := hide (HB7.out.trans (hb8.mono HB7.out.size))
  have HK8 := hide ((HK7.out.below hb8 (Nat.le_refl _)).mono hb8.size)
  clear hb8 ho8 HB7 HK7 HSR
  cases R with
  | true =>
    have hKe := HKS.out rfl
    rw [hKe] at HSK
    have hbe : (bl s6 == s6.toList) = true := by rw [beq_iff_eq, ByteArray.toList_eq]; rfl
    clear hKe HKS
    go_wp2_with fail
    refine (HSK.out _ HK8.out).mono ?_
    rintro e w9 ⟨rfl, hb9⟩
    have HB9 := hide (HB8.out.trans (hb9.mono HB8.out.size))
    clear hb9
    go_wp2_with fail
    go_ret
    exact ⟨rfl, HB9.out⟩
  | false =>
    go_wp2_with fail
    go_ret
    exact ⟨rfl, HB8.out⟩

theorem law_blocks (a0 : Option Addr) (len0 cap0 : Nat) (z0 : List Int) (w : World) (w0 : IsRow .u8 w a0 len0 cap0 z0) :
    Calls Try.prog 3 #[.slice a0 len0 cap0] w fun e w' => e = .returned (.bool true) ∧ Below w.heap.size w w' := by
  obtain ⟨h1, h2⟩ := w0.code
  have := blocks_core a0 cap0 (z0.take len0) w h2
  rwa [h1] at this
end Go.Proofs.Ytegamnpdhiohmaa
