/-
  Texts of this proof, put together: SealI.
-/
import Derived.Test.YtmdhihgfnlnbnaaPackAR
import Derived.Test.YtmdhihgfnlnbnaaPackAC
import Derived.Test.YtmdhihgfnlnbnaaPackAM
import Derived.Test.YtmdhihgfnlnbnaaPackAS
import Derived.Test.YtmdhihgfnlnbnaaPackAW

/-
  Contracts of impl.rowNonce, SealBatch and OpenBatch.
-/
namespace Go.Proofs.Ytmdhihgfnlnbnaa
open Go.ChangeShapes Go.WideShapes Go.ChangeAt Go.RowKit

theorem rowNonce_any (b n : Int) (w : World) : Calls Try.prog 62 #[.int .i64 b, .int .i64 n] w (StrPost w (rowN b n)) := by
  by_cases hb : (decide (0 ≤ b) && decide (b ≤ 1000)) = true
  · by_cases hn : (decide (0 ≤ n) && decide (n < 1000000)) = true
    · simp at hb hn
      rw [rowN_yes ⟨by omega, by omega, by omega, by omega⟩]
      have H1 := hide (fun W => iNonce_any 3 (b * 1000000 + n) W)
      obtain ⟨V, hV⟩ : ∃ V, V = nonceL 3 (b * 1000000 + n) := ⟨_, rfl⟩
      rw [← hV] at H1 ⊢
      clear hV
      obtain ⟨hb1, hb2⟩ := hb
      obtain ⟨hn1, hn2⟩ := hn
      go_enter Try.func62, Try.ntmps62
      go_wp2_with (first | (go_at_call 86; refine (bootOk_any _ _).mono ?_; rintro e w' ⟨rfl, rfl⟩) | (go_at_call 87; refine (rowSeqOk_any _ _).mono ?_; rintro e w' ⟨rfl, rfl⟩))
      refine (H1.out _).mono ?_
      rintro e w1 ⟨rfl, hb1⟩
      have HB1 := hide hb1
      clear hb1
      go_wp2_with fail
      go_ret
      exact ⟨rfl, HB1.out⟩
    · rw [rowN_no (by unfold atOk; simp at hn; omega)]
      rw [Bool.not_eq_true] at hn
      go_enter Try.func62, Try.ntmps62
      go_wp2_with (first | (go_at_call 86; refine (bootOk_any _ _).mono ?_; rw [hb]; rintro e w' ⟨rfl, rfl⟩) | (go_at_call 87; refine (rowSeqOk_any _ _).mono ?_; rw [hn]; rintro e w' ⟨rfl, rfl⟩))
      go_ret
      exact ⟨rfl, Below.refl _ _⟩
  · rw [rowN_no (by unfold atOk; simp at hb; omega)]
    rw [Bool.not_eq_true] at hb
    go_enter Try.func62, Try.ntmps62
    go_wp2_with (go_at_call 86; refine (bootOk_any _ _).mono ?_; rw [hb]; rintro e w' ⟨rfl, rfl⟩)
    go_ret
    exact ⟨rfl, Below.refl _ _⟩

set_option maxRecDepth 20000 in
theorem iSeal_any (k : ByteArray) (b n : Int) (a : Option Addr) (cap : Nat) (L : List Opn) (w : World) (hr : elOp.Rd w w.heap.size a L) (hl : L.length ≤ 2097152) :
    Calls Try.prog 29 #[.string k, .int .i64 b, .int .i64 n, .slice a L.length cap] w (StrPost w (sealS (bl k) b n (showL L))) := by
  have HSH := hide (fun W (h : Below w.heap.size w W) => iShow_any a cap L W ((hr.below h (Nat.le_refl _)).mono h.size) hl)
  have HN := hide (fun W => rowNonce_any b n W)
  have HS := hide (fun W => iStream k ⟨(rowN b n).toArray⟩ ⟨(showL L).toArray⟩ 0 W ⟨by omega, by omega⟩ (by have := showL_le L; rw [size_of]; omega))
  rw [bl_of (rowN b n), bl_of (showL L)] at HS
  unfold sealS
  obtain ⟨R, hR⟩ : ∃ R, R = rowN b n := ⟨_, rfl⟩
  obtain ⟨V, hV⟩ : ∃ V, V = showL L := ⟨_, rfl⟩
  obtain ⟨l, hl⟩ : ∃ l, l = L.length := ⟨_, rfl⟩
  rw [← hR] at HN HS ⊢
  rw [← hV] at HSH HS ⊢
  rw [← hl] at HSH ⊢
  obtain ⟨X, hX⟩ : ∃ X, X = streamV (bl k) 0 R V := ⟨_, rfl⟩
  rw [← hX] at HS ⊢
  clear hR hV hl hX hr
  go_enter Try.func29, Try.ntmps29
  go_wp2_with fail
  refine (HN.out _).mono ?_
  rintro e w1 ⟨rfl, hb1⟩
  have HB1 := hide hb1
  clear hb1
  go_wp2_with fail
  refine (HSH.out _ HB1.out).mono ?_
  rintro e w2 ⟨rfl, hb2⟩
  have HB2 := hide (HB1.out.trans (hb2.mono HB1.out.size))
  clear hb2
  go_wp2_with fail
  refine (HS.out _).mono ?_
  rintro e w3 ⟨rfl, hb3⟩
  have HB3 := hide (HB2.out.trans (hb3.mono HB2.out.size))
  clear hb3
  go_wp2_with fail
  go_ret
  exact ⟨rfl, HB3.out⟩

set_option maxRecDepth 20000 in
theorem iOpen_any (k : ByteArray) (b n : Int) (s : ByteArray) (hm : s.size ≤ 1048576) (w : World) :
    Calls Try.prog 31 #[.string k, .int .i64 b, .int .i64 n, .string s] w (ReadBPost w (sealS (bl k) b n (bl s))) := by
  have HN := hide (fun W => rowNonce_any b n W)
  have HS := hide (fun W => iStream k ⟨(rowN b n).toArray⟩ s 0 W ⟨by omega, by omega⟩ hm)
  have HR := hide (fun W => iRead_any ⟨(sealS (bl k) b n (bl s)).toArray⟩ (by have := sealS_len (bl k) b n (bl s); rw [bl_len] at this; rw [size_of]; omega) W)
  rw [bl_of (rowN b n)] at HS
  rw [bl_of (sealS (bl k) b n (bl s))] at HR
  unfold ReadBPost at HR ⊢
  unfold sealS at HR ⊢
  obtain ⟨R, hR⟩ : ∃ R, R = rowN b n := ⟨_, rfl⟩
  rw [← hR] at HN HS HR ⊢
  obtain ⟨X, hX⟩ : ∃ X, X = streamV (bl k) 0 R (bl s) := ⟨_, rfl⟩
  rw [← hX] at HS HR ⊢
  obtain ⟨M, hM⟩ : ∃ M, M = readM X := ⟨_, rfl⟩
  obtain ⟨Q, hQ⟩ : ∃ Q, Q = readQ X := ⟨_, rfl⟩
  rw [← hM, ← hQ] at HR ⊢
  clear hR hX hM hQ
  go_enter Try.func31, Try.ntmps31
  go_wp2_with fail
  refine (HN.out _).mono ?_
  rintro e w1 ⟨rfl, hb1⟩
  have HB1 := hide hb1
  clear hb1
  go_wp2_with fail
  refine (HS.out _).mono ?_
  rintro e w2 ⟨rfl, hb2⟩
  have HB2 := hide (HB1.out.trans (hb2.mono HB1.out.size))
  clear hb2
  go_wp2_with fail
  refine (HR.out _).mono ?_
  rintro e w3 ⟨v, rfl, ho, hb3⟩
  have HB3 := hide (HB2.out.trans (hb3.mono HB2.out.size))
  have HO := hide (ho.mono HB2.out.size)
  clear hb3 ho
  go_wp2_with fail
  go_ret2
  exact ⟨_, rfl, HO.out, HB3.out⟩
end Go.Proofs.Ytmdhihgfnlnbnaa
