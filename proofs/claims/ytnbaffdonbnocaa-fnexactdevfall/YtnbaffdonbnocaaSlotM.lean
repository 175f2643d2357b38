/-
  Contracts of laws.markText, markPutS, heldPutS: marks are written into slots, and found there.
-/
import Derived.Test.YtnbaffdonbnocaaConv
import Derived.Test.YtnbaffdonbnocaaBytes
import Derived.Test.YtnbaffdonbnocaaOwnB
import Derived.StillTailTactics
import Derived.Deep.RegionHeld3
namespace Go.Proofs.Ytnbaffdonbnocaa
open Go.ChangeShapes Go.WideShapes Go.ChangeAt Go.RowKit

/-- a digit's byte -/
def mdig (q : Nat) : UInt8 := UInt8.ofNat (48 + q % 10)
theorem mdig_toNat (q : Nat) : ((mdig q).toNat : Int) = 48 + ((q % 10 : Nat) : Int) := by
  simp [mdig, UInt8.toNat_ofNat']
  omega
def mdigs (q : Nat) (out : List UInt8) : List UInt8 := if h : q = 0 then out else mdigs (q / 10) (mdig q :: out)
termination_by q
decreasing_by omega
theorem mdigs_zero (out : List UInt8) : mdigs 0 out = out := by rw [mdigs]; simp
theorem mdigs_step (q : Nat) (out : List UInt8) (h : 0 < q) : mdigs q out = mdigs (q / 10) (mdig q :: out) := by rw [mdigs, dif_neg (by omega)]
/-- the text of a mark -/
def markS (k : Nat) : ByteArray := ⟨(109 :: mdigs k []).toArray⟩

theorem size_mkL (l : List UInt8) : (ByteArray.mk l.toArray).size = l.length := by simp [ByteArray.size]

theorem markText_any (k : Nat) (w : World) (h0 : 0 < k) (h1 : k ≤ 8388608) :
    Calls Try.prog 61 #[.int .i64 k] w (StringPost w (markS k)) := by
  go_enter Try.func61, Try.ntmps61
  go_wp2_with fail
  go_loopw [0, 3] (fun q o wr => ∃ (n : Nat) (l : List UInt8), q = .int .i64 n ∧ o = .string ⟨l.toArray⟩ ∧ n ≤ k ∧ l.length + n ≤ k ∧ Hid (mdigs n l = mdigs k []) ∧ Hid (Below w.heap.size w wr)) (fun q _ _ => (intOf q).toNat)
  case atStart => exact ⟨k, [], rfl, rfl, Nat.le_refl _, by simp, rfl, Below.refl _ _⟩
  case round =>
    obtain ⟨n, l, rfl, rfl, hn, hl, HM, HB⟩ := hrel
    have hs := HB.out.size
    by_cases hp : 0 < n
    · have HM1 := hide ((mdigs_step n l hp).symm.trans HM.out)
      have hd := mdig_toNat n
      have hcv := run_conv1 (48 + ((n : Int) % 10)) (mdig n) (by rw [hd]; omega) wr
      have hadd : ∀ W, (Op.stringOp .add ⟨#[mdig n]⟩ ⟨l.toArray⟩).run Try.prog W = .ok (.string ⟨(mdig n :: l).toArray⟩) W := fun W => by
        rw [run_string_add_sum (P := Try.prog) (w := W) _ _ (by rw [size_mkL]; simp [ByteArray.size]; omega), ByteArray.mk_append_mk]
        simp
      clear hd
      go_wp2_with fail
      go_roundw
      case rel => exact ⟨n / 10, mdig n :: l, by go_num, rfl, by omega, by rw [List.length_cons]; omega, HM1, HB.out.alloc hs _⟩
      case measure => simp [intOf]; omega
    · have hn0 : n = 0 := by omega
      subst hn0
      rw [mdigs_zero] at HM
      have hadd : ∀ W, (Op.stringOp .add ⟨#[109]⟩ ⟨l.toArray⟩).run Try.prog W = .ok (.string (markS k)) W := fun W => by
        rw [run_string_add_sum (P := Try.prog) (w := W) _ _ (by rw [size_mkL]; simp [ByteArray.size]; omega), ByteArray.mk_append_mk, HM.out]
        simp [markS]
      go_wp2_with fail
      go_ret
      exact ⟨rfl, HB.out⟩

theorem markText_z (z : Int) (k : Nat) (w : World) (hz : z = (k : Int)) (h0 : 0 < k) (h1 : k ≤ 8388608) :
    Calls Try.prog 61 #[.int .i64 z] w (StringPost w (markS k)) := by
  subst hz
  exact markText_any k w h0 h1

/-- n marked slots, from number k on -/
def markL (k n : Nat) : List Slot := (List.range n).map fun i => (((k + 2 * i : Nat) : Int), markS (k + 2 * i + 1))
theorem length_markL (k n : Nat) : (markL k n).length = n := by simp [markL]
theorem tn_markL (k n i : Nat) (h : i < n) : tn (markL k n) i = ((k + 2 * i : Nat) : Int) := by simp [tn, markL, List.getD, h]
theorem ky_markL (k n i : Nat) (h : i < n) : ky (markL k n) i = markS (k + 2 * i + 1) := by simp [ky, markL, List.getD, h]
def mixL (L : List Slot) (k j : Nat) : List Slot := markL k j ++ L.drop j
theorem length_mixL (L : List Slot) (k j : Nat) (h : j ≤ L.length) : (mixL L k j).length = L.length := by simp [mixL, length_markL]; omega
theorem mixL_zero (L : List Slot) (k : Nat) : mixL L k 0 = L := by simp [mixL, markL]
theorem mixL_all (L : List Slot) (k : Nat) : mixL L k L.length = markL k L.length := by simp [mixL]
theorem mixL_step (L : List Slot) (k j : Nat) (h : j < L.length) : ((mixL L k j).set j (((k + 2 * j : Nat) : Int), ky (mixL L k j) j)).set j (tn ((mixL L k j).set j (((k + 2 * j : Nat) : Int), ky (mixL L k j) j)) j, markS (k + 2 * j + 1)) = mixL L k (j + 1) := by
  have hl := length_mixL L k j (by omega)
  have ht : tn ((mixL L k j).set j (((k + 2 * j : Nat) : Int), ky (mixL L k j) j)) j = ((k + 2 * j : Nat) : Int) := by
    rw [tn_at _ _ (by rw [List.length_set, hl]; exact h)]; simp
  rw [ht, List.set_set]
  unfold mixL
  rw [List.set_append_right _ _ (by rw [length_markL]; exact Nat.le_refl _), length_markL, Nat.sub_self, List.drop_eq_getElem_cons h, List.set_cons_zero]
  simp [markL, List.range_succ]

def MarkPost (B : Nat) (w : World) (a : Option Addr) (n cap k : Nat) (e : Ending) (w' : World) : Prop :=
  e = .returned (.int .i64 ((k + 2 * n : Nat) : Int)) ∧ OwnsS B w' (.slice a n cap) (markL k n) ∧ Only (Value.slice a n cap).ownBlock w w'

theorem markPutS_any (B : Nat) (a : Option Addr) (cap k : Nat) (L : List Slot) (w : World) (hO : OwnsS B w (.slice a L.length cap) L) (hk : 0 < k) (hl : k + 2 * L.length ≤ 4194304) :
    Calls Try.prog 48 #[.slice a L.length cap, .int .i64 k] w (MarkPost B w a L.length cap k) := by
  have HO := hide hO
  clear hO
  obtain ⟨n, hn⟩ : ∃ n, n = L.length := ⟨_, rfl⟩
  have HN := hide hn
  rw [← hn] at hl HO
  rw [← hn]
  clear hn
  go_enter Try.func48, Try.ntmps48
  go_wp2_with fail
  go_loopw [1, 5] (fun q i wr => ∃ j : Nat, i = .int .i64 j ∧ q = .int .i64 ((k + 2 * j : Nat) : Int) ∧ j ≤ n ∧ Hid (OwnsS B wr (.slice a n cap) (mixL L k j)) ∧ Hid (Only (Value.slice a n cap).ownBlock w wr)) (fun _ i _ => n - (intOf i).toNat)
  case atStart => exact ⟨0, rfl, rfl, by omega, by rw [mixL_zero]; exact HO, Only.refl _ _⟩
  case round =>
    obtain ⟨j, rfl, rfl, hj, HW, HT⟩ := hrel
    by_cases hlt : j < n
    · have hjL : j < L.length := by rw [← HN.out]; exact hlt
      have HM := hide (length_mixL L k j (by omega))
      have hlm : (mixL L k j).length = n := by rw [HM.out, HN.out]
      obtain ⟨g, rfl, hg, hgz⟩ := HW.out.pos (by rw [HM.out]; omega)
      obtain ⟨c0, c1⟩ := HW.out.cellAt hlm j (by rw [HM.out]; exact hjL)
      have z0 := HW.out.frozenAt hlm (j * 2)
      have HJ := hide hjL
      have HLM := hide hlm
      have HS := hide (mixL_step L k j hjL)
      clear hjL hlm
      go_wp2_with fail
      refine (markText_z (↑k + 2 * ↑j + 1) (k + 2 * j + 1) _ (by omega) (by omega) (by omega)).mono ?_
      rintro e w1 ⟨rfl, hb1⟩
      have hb1' : Below wr.heap.size (wr.setCell ⟨g, j * 2, none⟩ (.int .i64 (↑k + 2 * ↑j))) w1 := by simpa using hb1
      have HW1 := hide (show OwnsS B w1 (.slice (some ⟨g, 0, none⟩) n cap) ((mixL L k j).set j (((k + 2 * j : Nat) : Int), ky (mixL L k j) j)) from
        (show OwnsS B (wr.setCell ⟨g, j * 2, none⟩ (.int .i64 (↑k + 2 * ↑j))) _ _ from by
          have := HW.out.set0 HLM.out j ((k + 2 * j : Nat) : Int)
          rwa [show ((k + 2 * j : Nat) : Int) = ↑k + 2 * ↑j by omega] at this ⊢).below hb1 (Nat.le_refl _))
      have HT1 := hide ((HT.out.trans (Only.set g (j * 2) wr (.int .i64 (↑k + 2 * ↑j)))).then_below hb1 (by have := HT.out.size; simpa using this))
      have hgz1 : g < w1.heap.size := by have := hb1'.size; simp at this; omega
      clear hb1 hb1' HW HT c0 c1 z0 hgz
      have HL2 := hide (show ((mixL L k j).set j (((k + 2 * j : Nat) : Int), ky (mixL L k j) j)).length = n by rw [List.length_set, HLM.out])
      obtain ⟨_, c1⟩ := HW1.out.cellAt HL2.out j (by rw [HL2.out]; exact hlt)
      have z1 := HW1.out.frozenAt HL2.out (j * 2 + 1)
      have HW2 := hide (show OwnsS B (w1.setCell ⟨g, j * 2 + 1, none⟩ (.string (markS (k + 2 * j + 1)))) (.slice (some ⟨g, 0, none⟩) n cap) (mixL L k (j + 1)) from by
        rw [← HS.out]
        exact HW1.out.set1 HL2.out j (markS (k + 2 * j + 1)))
      have HT2 := hide (HT1.out.trans (Only.set g (j * 2 + 1) w1 (.string (markS (k + 2 * j + 1)))))
      clear HS HW1
      go_wp2_with fail
      go_roundw
      case rel => exact ⟨j + 1, by go_num, by go_num, by omega, HW2, HT2⟩
      case measure => simp [intOf]; omega
    · have hjn : j = n := by omega
      subst hjn
      have HW1 := hide (show OwnsS B wr (.slice a j cap) (markL k j) from by
        have := HW.out
        rwa [HN.out, mixL_all, ← HN.out] at this)
      go_wp2_with fail
      go_ret
      exact ⟨rfl, HW1.out, HT.out⟩

theorem heldPutS_any (a : Option Addr) (cap k n : Nat) (w : World) (hr : SlotRd w w.heap.size a (markL k n)) (hk : 0 < k) (hl : k + 2 * n ≤ 4194304) :
    Calls Try.prog 50 #[.slice a n cap, .int .i64 k] w (fun e w' => e = .returned (.int .i64 ((k + 2 * n : Nat) : Int)) ∧ Below w.heap.size w w') := by
  have HR := hide hr
  clear hr
  go_enter Try.func50, Try.ntmps50
  go_wp2_with fail
  go_loopw [1, 5] (fun q i wr => ∃ j : Nat, i = .int .i64 j ∧ q = .int .i64 ((k + 2 * j : Nat) : Int) ∧ j ≤ n ∧ Hid (Below w.heap.size w wr)) (fun _ i _ => n - (intOf i).toNat)
  case atStart => exact ⟨0, rfl, rfl, by omega, Below.refl _ _⟩
  case round =>
    obtain ⟨j, rfl, rfl, hj, HB⟩ := hrel
    by_cases hlt : j < n
    · obtain ⟨b, o, rfl, hb, hc⟩ := HR.out (by rw [length_markL]; omega)
      obtain ⟨p0, p1⟩ := hc j (by rw [length_markL]; exact hlt)
      rw [tn_markL k n j hlt] at p0
      rw [ky_markL k n j hlt] at p1
      have d0 := (HB.out.cell (p := ⟨b, o + j * 2, none⟩) hb).trans p0
      have d1 := (HB.out.cell (p := ⟨b, o + j * 2 + 1, none⟩) hb).trans p1
      clear hc p0 p1
      go_wp2_with fail
      have hi0 : (j : Int) < (n : Int) := by omega
      go_region_held3 (fun w' => w'.cell? ⟨b, o + j * 2 + 1, none⟩ = some (.string (markS (k + 2 * j + 1))))
        (first
          | exact d1
          | exact d2)
        (first
          | (go_at_call 61; refine (markText_z (↑k + 2 * ↑j + 1) (k + 2 * j + 1) _ (by omega) (by omega) (by omega)).mono ?_; rintro e w1 ⟨rfl, hb1⟩; have HB1 := hide (HB.out.drew.trans (hb1.mono HB.out.size)); have d2 := (hb1.cell (p := ⟨b, o + j * 2 + 1, none⟩) (Nat.lt_of_lt_of_le hb HB.out.size)).trans d1; clear hb1))
      all_goals go_wp2_with fail
      all_goals go_roundw
      all_goals first
        | exact ⟨j + 1, by go_num, by go_num, by omega, HB1⟩
        | (simp [intOf]; omega)
    · have hjn : j = n := by omega
      subst hjn
      go_wp2_with fail
      go_ret
      exact ⟨rfl, HB.out⟩

end Go.Proofs.Ytnbaffdonbnocaa
