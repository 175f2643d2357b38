/-
  Contracts of spec.DrawBloomOf and DrawBloomMay.
-/
import Derived.Test.YtncfodifcgjicaaDoorDrawBlm
import Derived.Deep.QuietTactic
import Derived.BigQuiet
namespace Go.Proofs.YtncfodifcgjicaaDoor
open Go.ChangeShapes Go.WideShapes Go.ChangeAt Go.RowKit

theorem cut_of {g : Nat} {w w1 w2 : World} (hb : Below w.heap.size w w1) (hg : w.heap.size ≤ g) (ht : Turned g w1 w2) : Below w.heap.size w w2 :=
  ⟨ht.os.trans hb.os, ht.tape.trans hb.tape, ht.output.trans hb.output, Nat.le_trans hb.size ht.size, fun i hi => (ht.block i (Nat.lt_of_lt_of_le hi hb.size) (fun e => by have := Option.some.inj e; omega)).trans (hb.block i hi)⟩
def OfDrawn (w : World) (e : Ending) (w' : World) : Prop :=
  ∃ (a : Option Addr) (c : Nat) (l : List ByteArray) (z : Int), e = .returned (.tuple #[.slice a l.length c, .int .i64 z]) ∧ elStr.Rd w' w'.heap.size a l ∧ l.length ≤ 100 ∧ (∀ z ∈ l, z.size ≤ 4) ∧ Below w.heap.size w w'
set_option maxHeartbeats 1000000 in
theorem drawBloomOf_any (a : Option Addr) (cap : Nat) (bs : List Int) (w : World) (hc : CodeAt w.heap.size w a bs) (hm : bs.length ≤ 1048576) :
    Calls Tryd.prog 7 #[.slice a bs.length cap] w (OfDrawn w) := by
  have HNew := hide (l1New_any a cap bs w (Nat.le_refl _) hc hm)
  obtain ⟨n, hn⟩ : ∃ n, n = bs.length := ⟨_, rfl⟩
  rw [← hn] at HNew ⊢
  clear hn hc hm
  go_enter Tryd.func7, Tryd.ntmps7
  go_wp2_with fail
  refine HNew.out.mono ?_
  rintro e w1 ⟨rfl, hc1, hb1⟩
  have HC1 := hide (show CurS w.heap.size w.heap.size a cap bs w1 from ⟨_, hc1⟩)
  have HB1 := hide hb1
  clear hc1 hb1 HNew
  go_wp2_with fail
  refine (l10Keys_some HC1.out).mono ?_
  rintro e w2 ⟨v, l, rfl, ho, hl, hz, hc2, ht2⟩
  obtain ⟨a2, c2, rfl, hr2, _⟩ := ho.form
  have HO2 := hide ho
  have HC2 := hide hc2
  have HB2 := hide (cut_of HB1.out (Nat.le_refl _) ht2)
  have HL := hide hl
  have HZ := hide hz
  have hgw := HB1.out.size
  have hlt := HC1.out.lt
  clear ho hc2 ht2 hr2 hl hz HC1
  go_wp2_with fail
  refine (pickInt_new 6 _ [1, 2, 8, 64, 65, 0] rfl (by omega) (by omega) rfl HC2.out).mono ?_
  rintro e w3 ⟨z, rfl, hc3, ht3⟩
  have HB3 := hide (cut_of HB2.out (Nat.le_refl _) ht3)
  have HO3 := hide (HO2.out.turned ht3 hlt)
  clear hc3 ht3
  go_wp2_with fail
  go_ret2
  exact ⟨_, _, l, z, rfl, owns_rd HO3.out, HL.out, HZ.out, HB3.out⟩

def MayDrawn (w : World) (e : Ending) (w' : World) : Prop := ∃ b k : ByteArray, e = .returned (.tuple #[.string b, .string k]) ∧ b.size ≤ 64 ∧ k.size ≤ 4 ∧ Below w.heap.size w w'
set_option maxHeartbeats 1000000 in
theorem drawBloomMay_any (a : Option Addr) (cap : Nat) (bs : List Int) (w : World) (hc : CodeAt w.heap.size w a bs) (hm : bs.length ≤ 1048576) :
    Calls Tryd.prog 11 #[.slice a bs.length cap] w (MayDrawn w) := by
  have HNew := hide (l1New_any a cap bs w (Nat.le_refl _) hc hm)
  obtain ⟨n, hn⟩ : ∃ n, n = bs.length := ⟨_, rfl⟩
  rw [← hn] at HNew ⊢
  clear hn hc hm
  go_enter Tryd.func11, Tryd.ntmps11
  go_wp2_with fail
  refine HNew.out.mono ?_
  rintro e w1 ⟨rfl, hc1, hb1⟩
  have HC1 := hide (show CurS w.heap.size w.heap.size a cap bs w1 from ⟨_, hc1⟩)
  have HB1 := hide hb1
  clear hc1 hb1 HNew
  go_wp2_with fail
  refine (l10Keys_some HC1.out).mono ?_
  rintro e w2 ⟨v, l, rfl, ho, hl, hz, hc2, ht2⟩
  obtain ⟨a2, c2, rfl, hr2, _⟩ := ho.form
  have HO2 := hide ho
  have HC2 := hide hc2
  have HB2 := hide (cut_of HB1.out (Nat.le_refl _) ht2)
  have HZ := hide hz
  have hgw := HB1.out.size
  have hlt := HC1.out.lt
  have hs2 := HB2.out.size
  have HSB := hide (fun W z (h : elStr.Rd W W.heap.size a2 l) => sBloom_any a2 c2 l z W h (by unfold maxLen; omega) (fun x hx => by have := hz x hx; omega))
  obtain ⟨m, hmm⟩ : ∃ m, m = l.length := ⟨_, rfl⟩
  have HM := hide hmm
  rw [← hmm] at HO2 HSB hl ⊢
  clear ho hc2 ht2 hr2 hz HC1 hmm
  go_wp2_with fail
  refine (pickInt_new 4 _ [1, 2, 8, 64] rfl (by omega) (by omega) rfl HC2.out).mono ?_
  rintro e w3 ⟨z, rfl, hc3, ht3⟩
  have HB3 := hide (cut_of HB2.out (Nat.le_refl _) ht3)
  have HO3 := hide (HO2.out.turned ht3 hlt)
  have HC3 := hide hc3
  clear hc3 ht3 HO2 HC2
  go_wp2_with fail
  refine (HSB.out _ z (owns_rd HO3.out)).mono ?_
  rintro e w4 ⟨rfl, hb4⟩
  have HB4 := hide (HB3.out.trans (hb4.mono HB3.out.size))
  have HO4 := hide (HO3.out.below hb4 (Nat.le_refl _))
  have HC4 := hide (HC3.out.keep (hb4.mono (Nat.succ_le_of_lt HC3.out.lt)))
  obtain ⟨s, hs⟩ : ∃ s : ByteArray, s = ⟨(bloomV (l.map bl) z).toArray⟩ := ⟨_, rfl⟩
  have HS := hide (show s.size ≤ 64 by rw [hs, size_of]; exact bloomV_len _ _)
  rw [← hs]
  clear hs hb4 HO3 HC3 HSB
  by_cases h0 : 0 < m
  · have h0' : (0 : Int) < (m : Int) := by omega
    go_wp2_with fail
    refine (once_some 2 (by omega) HC4.out).mono ?_
    rintro e w5 ⟨b, rfl, hc5, ht5⟩
    have HB5 := hide (cut_of HB4.out (Nat.le_refl _) ht5)
    have HC5 := hide hc5
    cases b with
    | true =>
      have HR5 := hide (owns_rd (HO4.out.turned ht5 hlt))
      obtain ⟨b2, o2, rfl, hb2, hcell⟩ := HR5.out.str (by rw [← HM.out]; exact h0)
      have hl0 : 0 < l.length := by rw [← HM.out]; exact h0
      have d0 := hcell 0 hl0
      rw [Nat.add_zero] at d0
      have HK := hide (HZ.out l[0] (List.getElem_mem hl0))
      generalize l[0] = k at *
      clear hcell hl0 hc5 ht5 HR5 HO4 HC4
      go_wp2_with fail
      go_quiet (fail)
      go_wp2_with fail
      go_ret2
      exact ⟨s, k, rfl, HS.out, HK.out, ⟨HB5.out.os, HB5.out.tape, HB5.out.output, HB5.out.size, HB5.out.block⟩⟩
    | false =>
      clear hc5 ht5 HO4 HC4
      go_wp2_with fail
      refine (text_some 4 (by omega) HC5.out).mono ?_
      rintro e w6 ⟨tx, htx, rfl, hc6, ht6⟩
      have HB6 := hide (cut_of HB5.out (Nat.le_refl _) ht6)
      clear hc6 ht6
      go_wp2_with fail
      go_ret2
      exact ⟨s, _, rfl, HS.out, by rw [size_of]; exact htx, HB6.out⟩
  · have h0' : ¬ (0 : Int) < (m : Int) := by omega
    go_wp2_with fail
    refine (text_some 4 (by omega) HC4.out).mono ?_
    rintro e w6 ⟨tx, htx, rfl, hc6, ht6⟩
    have HB6 := hide (cut_of HB4.out (Nat.le_refl _) ht6)
    clear hc6 ht6
    go_wp2_with fail
    go_ret2
    exact ⟨s, _, rfl, HS.out, by rw [size_of]; exact htx, HB6.out⟩
end Go.Proofs.YtncfodifcgjicaaDoor
