/-
  Texts of this proof, put together: FilO.
-/
import Derived.Test.YtakjjfbocokpaaaDoorPackAT
import Derived.Test.YtakjjfbocokpaaaDoorPackAV
import Derived.Deep.RegionWith
import Derived.BigQuiet

/-
  Contracts of impl.sealedText and OpenFile, where the table of the program holds its sixteen words and its error is an error.
-/
namespace Go.Proofs.YtakjjfbocokpaaaDoor
open Go.ChangeShapes Go.WideShapes Go.ChangeAt Go.RowKit

/-- the program's error: a pointer to an error of errors.New's make -/
def MisIn (a : Addr) (w : World) : Prop := 0 < w.heap.size ∧ w.cell? ⟨0, 0, none⟩ = some (.iface 153 (.pointer (some a)))
theorem MisIn.below {a : Addr} {w w' : World} (h : MisIn a w) (hb : Below w.heap.size w w') : MisIn a w' := by
  refine ⟨Nat.lt_of_lt_of_le h.1 hb.size, ?_⟩
  rw [hb.cell (p := ⟨0, 0, none⟩) h.1]
  exact h.2
theorem below_drewN13 {B : Nat} {a b : World} (h : Below B a b) (n : Nat) : Below B a (b.drewN n) := ⟨h.os, h.tape, h.output, h.size, h.block⟩
/-- what sealedText answers -/
def SealedPost (a : Addr) (w : World) (m : List UInt8) (n : Int) (s : List UInt8) (e : Ending) (w' : World) : Prop :=
  ((openOk m n s ∧ e = .returned (.tuple #[.string ⟨(fstr m n (s.drop 4)).toArray⟩, .nilIface])) ∨ (¬ openOk m n s ∧ e = .returned (.tuple #[.string ByteArray.empty, .iface 153 (.pointer (some a))]))) ∧ Below w.heap.size w w'

set_option maxHeartbeats 1000000 in
set_option maxRecDepth 20000 in
theorem sealedText_any (a : Addr) (m s : ByteArray) (n : Int) (w : World) (hs : s.size ≤ 1048576) (h0 : 1 < w.heap.size) (hT : Hid (CrcTabIn w)) (hM : Hid (MisIn a w)) :
    Calls Tryd.prog 75 #[.string m, .int .i64 n, .string s] w (SealedPost a w (bl m) n (bl s)) := by
  have HK := hide (fun W => iFileKey_any m n W)
  have hm0 := hM.out.2
  by_cases h4 : s.size < 4
  · have hno : ¬ openOk (bl m) n (bl s) := fun q => by have := q.2.1; rw [bl_len] at this; omega
    have HN := hide hno
    have hd : decide ((s.size : Int) < 4) = true := decide_eq_true (by omega)
    clear h4 hs hno
    go_enter Tryd.func75, Tryd.ntmps75
    go_wp2_with fail
    go_quiet (fail)
    go_wp2_with fail
    go_ret2
    exact ⟨Or.inr ⟨HN.out, rfl⟩, below_drewN13 (Below.refl _ _) _⟩
  · have hk4 : (4 : Int) ≤ (s.size : Int) := by omega
    have hk5 : 4 ≤ s.size := by omega
    have ec2 := ext_drop s 4
    have HST := hide (fun W => iFileStream_any ⟨(fkeyV (bl m) n).toArray⟩ ⟨((bl s).drop 4).toArray⟩ n W (by rw [size_of, List.length_drop, bl_len]; omega))
    rw [bl_of (fkeyV (bl m) n), bl_of ((bl s).drop 4), show streamV (fkeyV (bl m) n) 1 (nonceL 5 n) ((bl s).drop 4) = fstr (bl m) n ((bl s).drop 4) from rfl] at HST
    obtain ⟨S, hS⟩ : ∃ S, S = fstr (bl m) n ((bl s).drop 4) := ⟨_, rfl⟩
    have HS := hide hS
    rw [← hS] at HST
    obtain ⟨K, hK⟩ : ∃ K, K = fkeyV (bl m) n := ⟨_, rfl⟩
    rw [← hK] at HK HST
    have hd : decide ((s.size : Int) < 4) = false := decide_eq_false (by omega)
    have HSF := hide (fun W a b => iSealFile_any m ⟨S.toArray⟩ n W a b)
    rw [bl_of S] at HSF
    have HF := hide (show 4 ≤ (bl s).length by rw [bl_len]; omega)
    clear hS hK h4 hs
    go_enter Tryd.func75, Tryd.ntmps75
    go_wp2_with fail
    go_region_held3 (fun _ => True) (trivial)
      (first
        | (go_at_call 37
           refine (HK.out _).mono ?_
           rintro e w2 ⟨rfl, hb2⟩
           have HB2 := hide (below_of_drew' hb2)
           clear hb2)
        | (go_at_call 78
           refine (HST.out _).mono ?_
           rintro e w3 ⟨rfl, hb3⟩
           have HB3 := hide (HB2.out.trans (hb3.mono HB2.out.size))
           clear hb3))
    all_goals go_wp2_with fail
    all_goals refine (HSF.out _ (by have := HB3.out.size; omega) (hide (hT.out.below HB3.out h0))).mono ?_
    all_goals
      rintro e w4 ⟨rfl, hb4⟩
      have HB4 := hide (HB3.out.trans (hb4.mono HB3.out.size))
      have hm4 := (hM.out.below HB4.out).2
      clear hb4
    all_goals
      by_cases hw : openOk (bl m) n (bl s)
      · have HW := hide hw
        have hE : fileV (bl m) n S = bl s := by rw [HS.out]; exact hw.2.2
        rw [hE, ← ba_mk s]
        clear hE hw
        go_wp2_with fail
        go_ret2
        exact ⟨Or.inl ⟨HW.out, by rw [← HS.out]; rfl⟩, HB4.out⟩
      · have HW := hide hw
        have hE : fileV (bl m) n S ≠ bl s := fun h => by
          refine hw ⟨?_, HF.out, by rw [← HS.out]; exact h⟩
          refine Decidable.byContradiction fun hk => ?_
          rw [fileV_no (fun q => hk q.1)] at h
          have := HF.out
          rw [← h] at this
          simp at this
        obtain ⟨V, hV⟩ : ∃ V, V = fileV (bl m) n S := ⟨_, rfl⟩
        rw [← hV] at hE ⊢
        have hne := ne_str hE
        clear hE hw hV
        go_wp2_with fail
        go_quiet (fail)
        go_wp2_with fail
        go_ret2
        exact ⟨Or.inr ⟨HW.out, rfl⟩, below_drewN13 HB4.out _⟩

set_option maxHeartbeats 1000000 in
theorem iOpenFile_any (a : Addr) (m s : ByteArray) (n : Int) (w : World) (hs : s.size ≤ 1048576) (h0 : 1 < w.heap.size) (hT : Hid (CrcTabIn w)) (hM : Hid (MisIn a w)) :
    Calls Tryd.prog 34 #[.string m, .int .i64 n, .string s] w (OpenFPost w (bl m) n (bl s)) := by
  have HS := hide (sealedText_any a m s n w hs h0 hT hM)
  go_enter Tryd.func34, Tryd.ntmps34
  go_wp2_with fail
  refine HS.out.mono ?_
  rintro e w1 ⟨⟨hw, rfl⟩ | ⟨hw, rfl⟩, hb1⟩
  · have HU := hide (open_yes hw)
    have HB1 := hide hb1
    have hm1 := (hM.out.below HB1.out).2
    clear hw hb1
    go_wp2_with fail
    refine (is_nil a _).mono ?_
    rintro e w2 ⟨rfl, rfl⟩
    go_wp2_with fail
    go_ret2
    exact ⟨by rw [HU.out.1, HU.out.2]; rfl, HB1.out⟩
  · have HU := hide (open_no hw)
    have HB1 := hide hb1
    have hm1 := (hM.out.below HB1.out).2
    clear hw hb1
    go_wp2_with fail
    refine (is_same a _).mono ?_
    rintro e w2 ⟨rfl, rfl⟩
    go_wp2_with fail
    go_ret2
    exact ⟨by rw [HU.out.1, HU.out.2]; rfl, HB1.out⟩
end Go.Proofs.YtakjjfbocokpaaaDoor
