/-
  Texts of this proof, put together: SealS.
-/
import Derived.Test.YtmdhihgfnlnbnaaPackAR
import Derived.Test.YtmdhihgfnlnbnaaPackAC
import Derived.Test.YtmdhihgfnlnbnaaPackAM
import Derived.Test.YtmdhihgfnlnbnaaPackAY
import Derived.Test.YtmdhihgfnlnbnaaPackAV

/-
  Contracts of spec.SealBatch and OpenBatch.
-/
namespace Go.Proofs.Ytmdhihgfnlnbnaa
open Go.ChangeShapes Go.WideShapes Go.ChangeAt Go.RowKit

set_option maxRecDepth 20000 in
theorem sSeal_any (k : ByteArray) (b n : Int) (a : Option Addr) (cap : Nat) (L : List Opn) (w : World) (hr : elOp.Rd w w.heap.size a L) (hl : L.length ≤ 2097152) :
    Calls Try.prog 28 #[.string k, .int .i64 b, .int .i64 n, .slice a L.length cap] w (StrPost w (sealS (bl k) b n (showL L))) := by
  have HBO := hide (fun W (h : Below w.heap.size w W) => sBatchOk_any a cap L W ((hr.below h (Nat.le_refl _)).mono h.size) hl)
  have HSH := hide (fun W (h : Below w.heap.size w W) => sShow_any a cap L W ((hr.below h (Nat.le_refl _)).mono h.size) hl)
  obtain ⟨X, hX⟩ : ∃ X, X = sealS (bl k) b n (showL L) := ⟨_, rfl⟩
  have HX := hide hX
  rw [← hX]
  have HLE := hide (showL_le L)
  have hno : ¬ batOk L → showL L = [] := fun h => showL_no h
  obtain ⟨V, hV⟩ : ∃ V, V = showL L := ⟨_, rfl⟩
  rw [← hV] at HSH HX HLE hno
  obtain ⟨l, hn⟩ : ∃ l, l = L.length := ⟨_, rfl⟩
  rw [← hn] at HSH HBO ⊢
  clear hX hV hn hr hl
  have hb0 := Below.refl w.heap.size w
  have HB0 := hide hb0
  clear hb0
  by_cases hbo : batOk L
  · rw [decide_eq_true hbo] at HBO
    clear hbo hno
    by_cases hk : k.size = 32
    · have hk1 : ((k.size : Int) != 32) = false := by rw [bne_eq_false_iff_eq]; omega
      by_cases ha : atOk b n
      · have HA := hide (fun W => l8At_yes b n ha W)
        have HN := hide (fun W => sNonce_any 3 (b * 1000000 + n) W)
        have HS := hide (fun W => sStream k ⟨(nonceL 3 (b * 1000000 + n)).toArray⟩ ⟨V.toArray⟩ 0 W ⟨by omega, by omega⟩ (by have := HLE.out; rw [size_of]; omega))
        rw [bl_of (nonceL 3 (b * 1000000 + n)), bl_of V] at HS
        have HX1 := hide (show X = streamV (bl k) 0 (nonceL 3 (b * 1000000 + n)) V by rw [HX.out, sealS, rowN_yes ha])
        obtain ⟨hb1, hb2, hn1, hn2⟩ := ha
        obtain ⟨R, hR⟩ : ∃ R, R = nonceL 3 (b * 1000000 + n) := ⟨_, rfl⟩
        rw [← hR] at HN HS HX1
        rw [← HX1.out] at HS
        clear hR hk HX HX1 HLE
        go_enter Try.func28, Try.ntmps28
        go_wp2_with fail
        refine (HBO.out _ HB0.out).mono ?_
        rintro e w1 ⟨rfl, hb1⟩
        have HB1 := hide hb1
        clear hb1 HBO
        go_wp2_with (go_at_call 58; refine (HA.out _).mono ?_; rintro e w' ⟨rfl, rfl⟩)
        refine (HN.out _).mono ?_
        rintro e w2 ⟨rfl, hb2⟩
        have HB2 := hide (HB1.out.trans (hb2.mono HB1.out.size))
        clear hb2
        go_wp2_with fail
        refine (HSH.out _ HB2.out).mono ?_
        rintro e w3 ⟨rfl, hb3⟩
        have HB3 := hide (HB2.out.trans (hb3.mono HB2.out.size))
        clear hb3
        go_wp2_with fail
        refine (HS.out _).mono ?_
        rintro e w4 ⟨rfl, hb4⟩
        have HB4 := hide (HB3.out.trans (hb4.mono HB3.out.size))
        clear hb4
        go_wp2_with fail
        go_ret
        exact ⟨rfl, HB4.out⟩
      · have HX1 := hide (show X = [] by rw [HX.out]; exact sealS_no fun h => ha h.2)
        have HA := hide (fun W => l8At_no b n ha W)
        clear hk HX HLE ha
        rw [HX1.out]
        go_enter Try.func28, Try.ntmps28
        go_wp2_with fail
        refine (HBO.out _ HB0.out).mono ?_
        rintro e w1 ⟨rfl, hb1⟩
        have HB1 := hide hb1
        clear hb1 HBO
        go_wp2_with (go_at_call 58; refine (HA.out _).mono ?_; rintro e w' ⟨rfl, rfl⟩)
        go_ret
        exact ⟨rfl, HB1.out⟩
    · have hk1 : ((k.size : Int) != 32) = true := by rw [bne_iff_ne]; omega
      have HX1 := hide (show X = [] by rw [HX.out]; exact sealS_no fun h => hk (by rw [← bl_len]; exact h.1))
      clear hk HX HLE
      rw [HX1.out]
      go_enter Try.func28, Try.ntmps28
      go_wp2_with fail
      refine (HBO.out _ HB0.out).mono ?_
      rintro e w1 ⟨rfl, hb1⟩
      have HB1 := hide hb1
      clear hb1 HBO
      go_wp2_with fail
      go_ret
      exact ⟨rfl, HB1.out⟩
  · have HX1 := hide (show X = [] by rw [HX.out, hno hbo, sealS_nil])
    rw [decide_eq_false hbo] at HBO
    clear hno hbo HX HLE
    rw [HX1.out]
    go_enter Try.func28, Try.ntmps28
    go_wp2_with fail
    refine (HBO.out _ HB0.out).mono ?_
    rintro e w1 ⟨rfl, hb1⟩
    have HB1 := hide hb1
    clear hb1 HBO
    go_wp2_with fail
    go_ret
    exact ⟨rfl, HB1.out⟩

set_option maxRecDepth 20000 in
theorem sOpen_any (k : ByteArray) (b n : Int) (s : ByteArray) (hm : s.size ≤ 1048576) (w : World) :
    Calls Try.prog 30 #[.string k, .int .i64 b, .int .i64 n, .string s] w (ReadBPost w (sealS (bl k) b n (bl s))) := by
  by_cases hk : k.size = 32
  · have hk1 : ((k.size : Int) != 32) = false := by rw [bne_eq_false_iff_eq]; omega
    by_cases ha : atOk b n
    · have HA := hide (fun W => l8At_yes b n ha W)
      have HN := hide (fun W => sNonce_any 3 (b * 1000000 + n) W)
      have HS := hide (fun W => sStream k ⟨(nonceL 3 (b * 1000000 + n)).toArray⟩ s 0 W ⟨by omega, by omega⟩ hm)
      have HR := hide (fun W => sRead_any ⟨(sealS (bl k) b n (bl s)).toArray⟩ (by have := sealS_len (bl k) b n (bl s); rw [bl_len] at this; rw [size_of]; omega) W)
      rw [bl_of (nonceL 3 (b * 1000000 + n))] at HS
      rw [bl_of (sealS (bl k) b n (bl s))] at HR
      unfold ReadBPost at HR ⊢
      unfold sealS at HR ⊢
      rw [rowN_yes ha] at HR ⊢
      obtain ⟨hb1, hb2, hn1, hn2⟩ := ha
      obtain ⟨R, hR⟩ : ∃ R, R = nonceL 3 (b * 1000000 + n) := ⟨_, rfl⟩
      rw [← hR] at HN HS HR ⊢
      obtain ⟨X, hX⟩ : ∃ X, X = streamV (bl k) 0 R (bl s) := ⟨_, rfl⟩
      rw [← hX] at HS HR ⊢
      obtain ⟨M, hM⟩ : ∃ M, M = readM X := ⟨_, rfl⟩
      obtain ⟨Q, hQ⟩ : ∃ Q, Q = readQ X := ⟨_, rfl⟩
      rw [← hM, ← hQ] at HR ⊢
      clear hR hX hM hQ hk
      go_enter Try.func30, Try.ntmps30
      go_wp2_with (go_at_call 58; refine (HA.out _).mono ?_; rintro e w' ⟨rfl, rfl⟩)
      refine (HN.out _).mono ?_
      rintro e w1 ⟨rfl, hb1⟩
      have HB1 := hide hb1
      clear hb1
      go_wp2_with fail
      refine (HS.out _).mono ?_
      rintro e w2 ⟨rfl, hb2⟩
      have HB2 := hide (HB1.out.trans (hb2.mono HB1.out.size))
      clear hb2
      go_wp2_with fail
      refine (HR.out _).mono ?_
      rintro e w3 ⟨v, rfl, ho, hb3⟩
      have HB3 := hide (HB2.out.trans (hb3.mono HB2.out.size))
      have HO := hide (ho.mono HB2.out.size)
      clear hb3 ho
      go_wp2_with fail
      go_ret2
      exact ⟨_, rfl, HO.out, HB3.out⟩
    · have HX := hide (show readM (sealS (bl k) b n (bl s)) = [] ∧ readQ (sealS (bl k) b n (bl s)) = false by rw [sealS_no fun h => ha h.2]; exact readM_nil)
      have HA := hide (fun W => l8At_no b n ha W)
      have HL := hide (litOp w.heap.size w (Nat.le_refl _))
      clear hk ha
      go_enter Try.func30, Try.ntmps30
      go_wp2_with (go_at_call 58; refine (HA.out _).mono ?_; rintro e w' ⟨rfl, rfl⟩)
      go_ret2
      exact ReadBPost.no HX.out _ HL.out ((Below.refl _ _).alloc (Nat.le_refl _) _)
  · have hk1 : ((k.size : Int) != 32) = true := by rw [bne_iff_ne]; omega
    have HX := hide (show readM (sealS (bl k) b n (bl s)) = [] ∧ readQ (sealS (bl k) b n (bl s)) = false by rw [sealS_no fun h => hk (by rw [← bl_len]; exact h.1)]; exact readM_nil)
    have HL := hide (litOp w.heap.size w (Nat.le_refl _))
    clear hk
    go_enter Try.func30, Try.ntmps30
    go_wp2_with fail
    go_ret2
    exact ReadBPost.no HX.out _ HL.out ((Below.refl _ _).alloc (Nat.le_refl _) _)
end Go.Proofs.Ytmdhihgfnlnbnaa
