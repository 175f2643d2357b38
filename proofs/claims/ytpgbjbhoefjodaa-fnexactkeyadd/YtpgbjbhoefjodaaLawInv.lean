/-
  What stays as it was through the laws of KeyAdd and KeyWipe: the boxes of the three devices, and their slots.
-/
import Derived.Test.YtpgbjbhoefjodaaKeyZ
import Derived.Test.YtpgbjbhoefjodaaKeyT
import Derived.Test.YtpgbjbhoefjodaaKeyE
import Derived.Test.YtpgbjbhoefjodaaKeyM
import Derived.Test.YtpgbjbhoefjodaaOwnA
import Derived.Test.YtpgbjbhoefjodaaMathW
namespace Go.Proofs.Ytpgbjbhoefjodaa
open Go.ChangeShapes Go.WideShapes Go.ChangeAt Go.RowKit

theorem BoxB.only {T : TypeId} {w w' : World} {g : Nat} {v0 v1 v2 : Value} {o : Option Nat} (h : BoxB T w g v0 v1 v2) (hk : Only o w w') (hne : some g ≠ o) : BoxB T w' g v0 v1 v2 := (hk.block g h.lt hne).trans h
theorem OwnsS.only {B : Nat} {w w' : World} {v : Value} {L : List Slot} {o : Option Nat} (h : OwnsS B w v L) (hk : Only o w w') (hne : ∀ k, v.ownBlock = some k → some k ≠ o) : OwnsS B w' v L := by
  have hlt := h.lt
  obtain ⟨hl, ⟨rfl, h0⟩ | ⟨g, cap, cur, rfl, hg, hh, hr⟩⟩ := h
  · exact ⟨hl, .inl ⟨rfl, h0⟩⟩
  · exact ⟨hl, .inr ⟨g, cap, cur, rfl, hg, (hk.block g (hlt g rfl).2 (hne g rfl)).trans hh, hr⟩⟩
theorem OwnsS.rd {B : Nat} {w : World} {a : Option Addr} {n cap : Nat} {L : List Slot} (h : OwnsS B w (.slice a n cap) L) : SlotRd w w.heap.size a L := by
  obtain ⟨a', cap', e, hr, _⟩ := h.form
  simp only [Value.slice.injEq] at e
  rw [e.1]
  exact hr
theorem HoldsS.own0 {w : World} {g : Nat} {L : List Slot} (h : HoldsS w g L) (hl : L.length ≤ 1048576) : OwnsS 0 w (.slice (some ⟨g, 0, none⟩) L.length L.length) L := h.owns (Nat.zero_le _) (by unfold maxLen; omega)

/-- the device that came in (box b0), the model's answer (box g6), the argument (box g8, its slots in block gx), the answer (box g9) -/
structure Inv (w : World) (m : ByteArray) (a : Option Addr) (n cap : Nat) (x : Int) (R : DevR) (g6 : Nat) (a6 : Option Addr) (c6 g8 gx g9 : Nat) (a9 : Option Addr) (c9 : Nat) (M9 : List Slot) (wc : World) : Prop where
  below : Below w.heap.size w wc
  b0 : BoxB 24 wc w.heap.size (.string m) (.slice a n cap) (.int .i64 x)
  b6 : BoxB 29 wc g6 (.string R.m) (.slice a6 R.L.length c6) (.int .i64 R.x)
  o6 : OwnsS 0 wc (.slice a6 R.L.length c6) R.L
  b8 : BoxB 29 wc g8 (.string m) (.slice (some ⟨gx, 0, none⟩) n n) (.int .i64 x)
  b9 : BoxB 29 wc g9 (.string R.m) (.slice a9 R.L.length c9) (.int .i64 R.x)
  o9 : OwnsS 0 wc (.slice a9 R.L.length c9) M9
  l06 : w.heap.size < g6
  l6x : g6 < gx
  lx8 : gx < g8
  l89 : g8 < g9
  k6 : ∀ k, (Value.slice a6 R.L.length c6).ownBlock = some k → w.heap.size < k ∧ k < g6
  k9 : ∀ k, (Value.slice a9 R.L.length c9).ownBlock = some k → g8 < k ∧ k < g9

section
variable {w : World} {m : ByteArray} {a : Option Addr} {n cap : Nat} {x : Int} {R : DevR} {g6 : Nat} {a6 : Option Addr} {c6 g8 gx g9 : Nat} {a9 : Option Addr} {c9 : Nat} {M9 : List Slot} {wc wc' : World}
theorem Inv.keep (h : Inv w m a n cap x R g6 a6 c6 g8 gx g9 a9 c9 M9 wc) (hb : Below wc.heap.size wc wc') : Inv w m a n cap x R g6 a6 c6 g8 gx g9 a9 c9 M9 wc' :=
  ⟨h.below.trans (hb.mono h.below.size), h.b0.below hb h.b0.lt, h.b6.below hb h.b6.lt, h.o6.below hb (Nat.le_refl _), h.b8.below hb h.b8.lt, h.b9.below hb h.b9.lt, h.o9.below hb (Nat.le_refl _), h.l06, h.l6x, h.lx8, h.l89, h.k6, h.k9⟩
theorem Inv.mark8 (h : Inv w m a n cap x R g6 a6 c6 g8 gx g9 a9 c9 M9 wc) (hk : Only (some gx) wc wc') : Inv w m a n cap x R g6 a6 c6 g8 gx g9 a9 c9 M9 wc' := by
  have h1 := h.l06
  have h2 := h.l6x
  have h3 := h.lx8
  have h4 := h.l89
  have ne : ∀ g, g ≠ gx → some g ≠ some gx := fun g hg e => hg (Option.some.inj e)
  refine ⟨h.below.trans (hk.below (fun g e => by have := Option.some.inj e; omega) h.below.size), h.b0.only hk (ne _ (by omega)), h.b6.only hk (ne _ (by omega)), h.o6.only hk (fun k e => ne _ ?_), h.b8.only hk (ne _ (by omega)), h.b9.only hk (ne _ (by omega)), h.o9.only hk (fun k e => ne _ ?_), h1, h2, h3, h4, h.k6, h.k9⟩
  · have := h.k6 k e; omega
  · have := h.k9 k e; omega
theorem Inv.mark9 {N : List Slot} (h : Inv w m a n cap x R g6 a6 c6 g8 gx g9 a9 c9 M9 wc) (hk : Only (Value.slice a9 R.L.length c9).ownBlock wc wc') (ho : OwnsS 0 wc' (.slice a9 R.L.length c9) N) : Inv w m a n cap x R g6 a6 c6 g8 gx g9 a9 c9 N wc' := by
  have h1 := h.l06
  have h2 := h.l6x
  have h3 := h.lx8
  have h4 := h.l89
  have ne : ∀ g, (∀ k, (Value.slice a9 R.L.length c9).ownBlock = some k → g ≠ k) → some g ≠ (Value.slice a9 R.L.length c9).ownBlock := fun g hg e => hg g e.symm rfl
  refine ⟨h.below.trans (hk.below (fun g e => by have := h.k9 g e; omega) h.below.size), h.b0.only hk (ne _ fun k e => ?_), h.b6.only hk (ne _ fun k e => ?_), h.o6.only hk (fun k6 e6 => ne _ fun k e => ?_), h.b8.only hk (ne _ fun k e => ?_), h.b9.only hk (ne _ fun k e => ?_), ho, h1, h2, h3, h4, h.k6, h.k9⟩
  · have := h.k9 k e; omega
  · have := h.k9 k e; omega
  · have := h.k9 k e; have := h.k6 k6 e6; omega
  · have := h.k9 k e; omega
  · have := h.k9 k e; omega
end

theorem markDev1 (m : ByteArray) (a : Option Addr) (cap : Nat) (L : List Slot) (x : Int) (w : World) (hO : OwnsS 0 w (.slice a L.length cap) L) (hl : L.length ≤ 2097151) :
    Calls Try.prog 14 #[.agg #[.string m, .slice a L.length cap, .int .i64 x], .int .i64 1] w (MarkPost 0 w a L.length cap 1) :=
  markKeyDev_any 0 m a cap 1 L x w hO (by omega) (by omega)
theorem heldDev1 (m : ByteArray) (a : Option Addr) (cap n : Nat) (x : Int) (w : World) (hO : OwnsS 0 w (.slice a n cap) (markL 1 n)) (hl : n ≤ 2097151) :
    Calls Try.prog 15 #[.agg #[.string m, .slice a n cap, .int .i64 x], .int .i64 1] w (fun e w' => e = .returned (.int .i64 ((1 + 2 * n : Nat) : Int)) ∧ Below w.heap.size w w') :=
  heldKeyDev_any m a cap 1 n x w hO.rd (by omega) (by omega)
theorem length_wipeV (m : ByteArray) (L : List Slot) (x t : Int) : (wipeV m L x t).L.length ≤ L.length := by
  unfold wipeV
  split
  · split
    · exact Nat.le_refl _
    · split
      · exact List.length_eraseIdx_le L _
      · exact Nat.le_refl _
  · exact Nat.zero_le _
end Go.Proofs.Ytpgbjbhoefjodaa
