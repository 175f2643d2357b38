/-
  Contracts of spec.l10Keys, DrawBloomOf and DrawBloomMay: some keys, some filter.
-/
import Derived.Test.YtncfodifcgjicaaDoorDrawI
import Derived.Test.YtncfodifcgjicaaDoorDrawW
import Derived.Test.YtncfodifcgjicaaDoorRowH
import Derived.Test.YtncfodifcgjicaaDoorBlmU
namespace Go.Proofs.YtncfodifcgjicaaDoor
open Go.ChangeShapes Go.WideShapes Go.ChangeAt Go.RowKit

theorem litStr (B : Nat) (w : World) (hB : B ≤ w.heap.size) : elStr.Owns B (w.alloc (.cells #[] 9)) (.slice (some ⟨w.heap.size, 0, none⟩) 0 0) [] := by
  exact World.ownsRow_lit (base := B) (e := 9) (size := 1) w #[] 0 hB (by decide) (by simp)
def KeysDrawn (B g : Nat) (a : Option Addr) (cap : Nat) (bs : List Int) (w : World) (e : Ending) (w' : World) : Prop :=
  ∃ v l, e = .returned v ∧ elStr.Owns w.heap.size w' v l ∧ l.length ≤ 100 ∧ (∀ z ∈ l, z.size ≤ 4) ∧ CurS B g a cap bs w' ∧ Turned g w w'
theorem small_snoc {l : List ByteArray} {x : ByteArray} (h : ∀ z ∈ l, z.size ≤ 4) (hx : x.size ≤ 4) : ∀ z ∈ l ++ [x], z.size ≤ 4 := by
  intro z hz
  rw [List.mem_append, List.mem_singleton] at hz
  rcases hz with hz | rfl
  · exact h z hz
  · exact hx
set_option maxHeartbeats 4000000 in
set_option maxRecDepth 20000 in
theorem l10Keys_some {B g : Nat} {a : Option Addr} {cap : Nat} {bs : List Int} {w : World} (h : CurS B g a cap bs w) :
    Calls Tryd.prog 17 #[.pointer (some ⟨g, 0, none⟩)] w (KeysDrawn B g a cap bs w) := by
  have hgw := h.lt
  have hb0 := (Below.refl w.heap.size w).alloc (Nat.le_refl _) (.cells #[] 9)
  have HL0 := hide (litStr w.heap.size w (Nat.le_refl _))
  have HC0 := hide (h.keep (hb0.mono (Nat.succ_le_of_lt hgw)))
  have HT0 := hide (Turned.of_below (g := g) hb0 (Nat.le_refl _))
  clear h hb0
  go_enter Tryd.func17, Tryd.ntmps17
  go_wp2_with fail
  refine (below_some 8 (by omega) (by omega) HC0.out).mono ?_
  rintro e w0 ⟨x0, hx0, rfl, hc0, ht0⟩
  have HO1 := hide (HL0.out.turned ht0 hgw)
  have HT1 := hide (HT0.out.trans ht0)
  have HC1 := hide hc0
  clear hc0 ht0 HL0 HT0 HC0
  go_wp2_with fail
  go_loopw [3, 4] (fun o i wr => ∃ (N y : Nat) (a' : Option Addr) (c' : Nat) (pre : List ByteArray), o = .slice a' y c' ∧ i = .int .i64 N ∧ N ≤ 8 ∧ y + N = x0 ∧ pre.length = y ∧ Hid (∀ z ∈ pre, z.size ≤ 4) ∧ Hid (elStr.Owns w.heap.size wr (.slice a' y c') pre) ∧ Hid (CurS B g a cap bs wr) ∧ Hid (Turned g w wr)) (fun _ i _ => (intOf i).toNat)
  case atStart => exact ⟨x0, 0, _, _, [], rfl, by go_num, by omega, by omega, rfl, (fun z hz => by cases hz), HO1, HC1, HT1⟩
  case round =>
    obtain ⟨N, y, a', c', pre, rfl, rfl, hN, hyN, hpre, HZ, HO, HC, HT⟩ := hrel
    have hsz := HT.out.size
    by_cases h0 : 0 < N
    · obtain ⟨M, rfl⟩ : ∃ M, N = M + 1 := ⟨N - 1, by omega⟩
      go_wp2_with fail
      refine (text_some 4 (by omega) HC.out).mono ?_
      rintro e w1 ⟨tx, htx, rfl, hc1, ht1⟩
      obtain ⟨s, hs⟩ : ∃ s : ByteArray, s = ⟨tx.toArray⟩ := ⟨_, rfl⟩
      have hs4 : s.size ≤ 4 := by rw [hs, size_of]; exact htx
      rw [← hs]
      clear hs htx
      have HO1 := hide (HO.out.turned ht1 hgw)
      have HT1 := hide (HT.out.trans ht1)
      have hs1 : w.heap.size ≤ w1.heap.size := HT1.out.size
      have HC1 := hide hc1
      have HOa := hide (HO1.out.alloc (.cells #[.string s] 9))
      have HSa : Hid (elStr.Rd (w1.alloc (.cells #[.string s] 9)) (w1.alloc (.cells #[.string s] 9)).heap.size (some ⟨w1.heap.size, 0, none⟩) [s]) := El.Holds.rd (El.Holds.new (e := elStr) w1 [s])
      have HBa := hide ((Below.refl w.heap.size w1).alloc hs1 (.cells #[.string s] 9))
      have hBa : w.heap.size ≤ (w1.alloc (.cells #[.string s] 9)).heap.size := Nat.le_trans hs1 HBa.out.size
      have hjl : (pre ++ [s]).length = y + 1 := by rw [List.length_append, hpre]; rfl
      clear hc1 ht1
      go_wp2_with (at_builtin; refine El.append rfl (.tmp 13) (.tmp 16) 24 rfl Tryd.underlying24 _ _ infoStr rfl (by decide) (by decide) w.heap.size w1 _ _ (some ⟨w1.heap.size, 0, none⟩) 1 1 pre [s] rfl rfl rfl (fun h => by cases h) HOa HSa (fun p hp => ⟨_, _, (Option.some.inj hp).symm⟩) HBa hBa _ (y + 1) rfl hjl (by omega) ?_; intro a5 c5 w5 HO5 HB5 HG5 hz5)
      have HC5 := hide (HC1.out.keep (HB5.out.mono (Nat.succ_le_of_lt hgw)))
      have HT5 := hide (HT1.out.then_below HB5.out (Nat.le_refl _))
      go_wp2_with fail
      go_roundw
      case rel => exact ⟨M, y + 1, a5, c5, _, rfl, by go_num, by omega, by omega, hjl, small_snoc HZ.out hs4, HO5, HC5, HT5⟩
      case measure => simp [intOf]
    · obtain rfl : N = 0 := by omega
      have HP := hide hpre
      have hy8 : y < 8 := by omega
      clear hyN hN h0 HO1 HT1 HC1
      go_wp2_with fail
      refine (once_some 30 (by omega) HC.out).mono ?_
      rintro e w1 ⟨b, rfl, hc1, ht1⟩
      have HO1 := hide (HO.out.turned ht1 hgw)
      have HT1 := hide (HT.out.trans ht1)
      have HC1 := hide hc1
      clear hc1 ht1 HO HT HC
      cases b with
      | false =>
        go_wp2_with fail
        go_ret
        exact ⟨_, _, rfl, HO1.out, by have := HP.out; omega, HZ.out, HC1.out, HT1.out⟩
      | true =>
        go_wp2_with fail
        refine (below_some 2 (by omega) (by omega) HC1.out).mono ?_
        rintro e w2 ⟨x2, hx2, rfl, hc2, ht2⟩
        have HO2 := hide (HO1.out.turned ht2 hgw)
        have HT2 := hide (HT1.out.trans ht2)
        have HC2 := hide hc2
        obtain ⟨T, hT⟩ : ∃ T, T = 60 + x2 := ⟨_, rfl⟩
        have e1 : IntKind.i64.wrap (60 + (x2 : Int)) = (T : Int) := by rw [IntKind.wrap_i64]; omega
        have hT2 : T ≤ 61 := by omega
        clear hc2 ht2 HO1 HT1 HC1 hx2 hT
        go_wp2_with fail
        go_loopw [3] (fun o wr => ∃ (y : Nat) (a' : Option Addr) (c' : Nat) (pre : List ByteArray), o = .slice a' y c' ∧ y ≤ 61 ∧ pre.length = y ∧ Hid (∀ z ∈ pre, z.size ≤ 4) ∧ Hid (elStr.Owns w.heap.size wr (.slice a' y c') pre) ∧ Hid (CurS B g a cap bs wr) ∧ Hid (Turned g w wr)) (fun o _ => 61 - (match o with | .slice _ n _ => n | _ => 0))
        case atStart => exact ⟨y, _, _, pre, rfl, by omega, HP.out, HZ, HO2, HC2, HT2⟩
        case round =>
          clear HO2 HC2 HT2 HZ HP hy8
          obtain ⟨y, a', c', pre, rfl, hy, hpre, HZ, HO, HC, HT⟩ := hrel
          by_cases hyT : y < T
          · have hs1 := HT.out.size
            have HOa := hide (HO.out.alloc (.cells #[.string ⟨#[107]⟩] 9))
            have HSa : Hid (elStr.Rd (wr.alloc (.cells #[.string ⟨#[107]⟩] 9)) (wr.alloc (.cells #[.string ⟨#[107]⟩] 9)).heap.size (some ⟨wr.heap.size, 0, none⟩) [⟨#[107]⟩]) := El.Holds.rd (El.Holds.new (e := elStr) wr [⟨#[107]⟩])
            have HBa := hide ((Below.refl w.heap.size wr).alloc hs1 (.cells #[.string ⟨#[107]⟩] 9))
            have hBa : w.heap.size ≤ (wr.alloc (.cells #[.string ⟨#[107]⟩] 9)).heap.size := Nat.le_trans hs1 HBa.out.size
            have hjl : (pre ++ [(⟨#[107]⟩ : ByteArray)]).length = y + 1 := by rw [List.length_append, hpre]; rfl
            go_wp2_with (at_builtin; refine El.append rfl (.tmp 27) (.tmp 28) 24 rfl Tryd.underlying24 _ _ infoStr rfl (by decide) (by decide) w.heap.size wr _ _ (some ⟨wr.heap.size, 0, none⟩) 1 1 pre [⟨#[107]⟩] rfl rfl rfl (fun h => by cases h) HOa HSa (fun p hp => ⟨_, _, (Option.some.inj hp).symm⟩) HBa hBa _ (y + 1) rfl hjl (by omega) ?_; intro a5 c5 w5 HO5 HB5 HG5 hz5)
            have HC5 := hide (HC.out.keep (HB5.out.mono (Nat.succ_le_of_lt hgw)))
            have HT5 := hide (HT.out.then_below HB5.out (Nat.le_refl _))
            go_wp2_with fail
            go_roundw
            case rel => exact ⟨y + 1, a5, c5, _, rfl, by omega, hjl, small_snoc HZ.out (by decide), HO5, HC5, HT5⟩
            case measure => simp; omega
          · have HP := hide hpre
            go_wp2_with fail
            go_ret
            exact ⟨_, _, rfl, HO.out, by have := HP.out; omega, HZ.out, HC.out, HT.out⟩
end Go.Proofs.YtncfodifcgjicaaDoor
