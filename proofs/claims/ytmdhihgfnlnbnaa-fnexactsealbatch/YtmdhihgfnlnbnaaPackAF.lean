/-
  Texts of this proof, put together: RowOp, SzOp, EqOp.
-/
import Derived.Test.YtmdhihgfnlnbnaaPackAD
import Derived.Test.YtmdhihgfnlnbnaaPackAE
import Derived.StillTailTactics

/-
  Rows of impl.Op (string, bool, string) in memory. (Written by mkrow.py.)
-/
namespace Go.Proofs.Ytmdhihgfnlnbnaa
open Go.ChangeShapes Go.WideShapes Go.ChangeAt Go.RowKit

abbrev OpE := ByteArray × Bool × ByteArray
def elOp : El OpE where
  T := 62
  c := 3
  enc := fun x => [.string x.1, .bool x.2.1, .string x.2.2]
  len := fun _ => rfl
  one := fun x v hv => by
    simp only [List.mem_cons, List.not_mem_nil, or_false] at hv
    rcases hv with rfl | rfl | rfl <;> rfl
def zeroOp : OpE := (⟨#[]⟩, false, ⟨#[]⟩)
theorem infoOp : (Try.prog.info? 62).map (fun i => (i.zero, i.size, i.bytes)) = some (some (.agg #[.string ⟨#[]⟩, .bool false, .string ⟨#[]⟩]), 3, 40) := by kernel_rfl
theorem makeOp (n : Nat) (hn : n ≤ 1099511627776) (w : World) : (Instr.makeSlice 25 (.int .i64 (n : Int)) (.int .i64 (n : Int))).run Try.prog w = .ok (.slice (some ⟨w.heap.size, 0, none⟩) n n) (w.alloc (.cells (elOp.vals (List.replicate n zeroOp)).toArray 62)) :=
  elOp.run_make 25 zeroOp (.agg #[.string ⟨#[]⟩, .bool false, .string ⟨#[]⟩]) 40 Try.underlying25 infoOp rfl (by decide) (by decide) n hn w
/-- the cells of element j, as the walk spells them -/
theorem cellsOp {w : World} {b o j : Nat} {L : List OpE} {hj : j < L.length} {f0 f1 f2} (hx : L[j] = (f0, f1, f2)) (h : ∀ i, i < 3 → w.cell? ⟨b, o + j * 3 + i, none⟩ = (elOp.enc L[j])[i]?) :
    w.cell? ⟨b, o + j * 3, none⟩ = some (.string f0) ∧ w.cell? ⟨b, o + j * 3 + 1, none⟩ = some (.bool f1) ∧ w.cell? ⟨b, o + j * 3 + 2, none⟩ = some (.string f2) := by
  rw [hx] at h
  exact ⟨h 0 (by omega), h 1 (by omega), h 2 (by omega)⟩
theorem cells0Op {w : World} {b j : Nat} {L : List OpE} {hj : j < L.length} {f0 f1 f2} (hx : L[j] = (f0, f1, f2)) (h : ∀ i, i < 3 → w.cell? ⟨b, j * 3 + i, none⟩ = (elOp.enc L[j])[i]?) :
    w.cell? ⟨b, j * 3, none⟩ = some (.string f0) ∧ w.cell? ⟨b, j * 3 + 1, none⟩ = some (.bool f1) ∧ w.cell? ⟨b, j * 3 + 2, none⟩ = some (.string f2) := by
  rw [hx] at h
  exact ⟨h 0 (by omega), h 1 (by omega), h 2 (by omega)⟩
theorem cellsXOp {w : World} {b o : Nat} {f0 f1 f2} (h : ∀ i, i < 3 → w.cell? ⟨b, o + i, none⟩ = (elOp.enc (f0, f1, f2))[i]?) :
    w.cell? ⟨b, o, none⟩ = some (.string f0) ∧ w.cell? ⟨b, o + 1, none⟩ = some (.bool f1) ∧ w.cell? ⟨b, o + 2, none⟩ = some (.string f2) := ⟨h 0 (by omega), h 1 (by omega), h 2 (by omega)⟩
theorem partsOp (x : OpE) : ∃ f0 f1 f2, x = (f0, f1, f2) := ⟨_, _, _, rfl⟩
/-- all strings of an element within 2^20 -/
def fitOp (x : OpE) : Prop := x.1.size ≤ 1048576 ∧ x.2.2.size ≤ 1048576
end Go.Proofs.Ytmdhihgfnlnbnaa

/-
  Contracts of laws.szOp, toOp and of their rows. (Written by mkrow.py.)
-/
namespace Go.Proofs.Ytmdhihgfnlnbnaa
open Go.ChangeShapes Go.WideShapes Go.ChangeAt Go.RowKit

theorem szOp_any (f0 : ByteArray) (f1 : Bool) (f2 : ByteArray) (left : Int) (w : World) (hf0 : f0.size ≤ maxLen) (hf2 : f2.size ≤ maxLen) (h0 : 0 ≤ left) (h1 : left ≤ 1048576) :
    Calls Try.prog 52 #[.agg #[.string f0, .bool f1, .string f2], .int .i64 left] w fun e w' => ∃ x : Int, e = .returned (.int .i64 x) ∧ -1 ≤ x ∧ x ≤ left ∧ (0 ≤ x → fitOp (f0, f1, f2)) ∧ Below w.heap.size w w' := by
  unfold maxLen at hf0 hf2
  by_cases cf0 : left < (f0.size : Int)
  · go_enter Try.func52, Try.ntmps52
    go_wp2
    go_ret
    exact ⟨_, rfl, by omega, by omega, fun h => by omega, (Below.refl _ _).alloc (Nat.le_refl _) _⟩
  by_cases cf2 : left - f0.size < (f2.size : Int)
  · go_enter Try.func52, Try.ntmps52
    go_wp2
    go_ret
    exact ⟨_, rfl, by omega, by omega, fun h => by omega, (Below.refl _ _).alloc (Nat.le_refl _) _⟩
  go_enter Try.func52, Try.ntmps52
  go_wp2
  go_ret
  exact ⟨_, rfl, by omega, by omega, fun _ => by unfold fitOp; simp only; omega, (Below.refl _ _).alloc (Nat.le_refl _) _⟩

theorem szOpS_any (a : Option Addr) (cap : Nat) (L : List OpE) (left : Int) (w : World) (hr : elOp.Rd w w.heap.size a L) (hl : L.length ≤ maxLen) (hk : ∀ x ∈ L, x.1.size ≤ maxLen ∧ x.2.2.size ≤ maxLen) (h0 : 0 ≤ left) (h1 : left ≤ 1048576) :
    Calls Try.prog 22 #[.slice a L.length cap, .int .i64 left] w (SzPost w (L.length ≤ 1048576 ∧ ∀ x ∈ L, fitOp x)) := by
  have HR := hide hr
  have HK := hide hk
  clear hr hk
  unfold maxLen at hl
  obtain ⟨n, hn⟩ : ∃ n, n = L.length := ⟨_, rfl⟩
  have HN := hide hn
  rw [← hn] at hl
  rw [← hn]
  by_cases hc : left < n
  · clear hn
    go_enter Try.func22, Try.ntmps22
    go_wp2
    go_ret
    exact ⟨_, rfl, by omega, by omega, fun h => by omega, Below.refl _ _⟩
  · clear hn
    go_enter Try.func22, Try.ntmps22
    go_wp2_with fail
    go_loopw [1, 5] (fun l i wr => ∃ (x : Int) (j : Nat), l = .int .i64 x ∧ i = .int .i64 j ∧ j ≤ n ∧ 0 ≤ x ∧ x ≤ 1048576 ∧ Hid (∀ i x, i < j → L[i]? = some x → fitOp x) ∧ Hid (Below w.heap.size w wr)) (fun _ i _ => n - (intOf i).toNat)
    case atStart => exact ⟨_, 0, rfl, rfl, by omega, by omega, by omega, fun i _ hi _ => by omega, Below.refl _ _⟩
    case round =>
      obtain ⟨x, j, rfl, rfl, hj, hx0, hx1, HA, HB⟩ := hrel
      by_cases hlt : j < n
      · have hjL : j < L.length := by rw [← HN.out]; exact hlt
        obtain ⟨b, off, rfl, hb, hcell⟩ := HR.out (by omega)
        obtain ⟨f0, f1, f2, hx⟩ := partsOp L[j]
        obtain ⟨c0, c1, c2⟩ := cellsOp hx (hcell j hjL)
        have d0 := (HB.out.cell (p := ⟨b, off + j * 3, none⟩) hb).trans c0
        have d1 := (HB.out.cell (p := ⟨b, off + j * 3 + 1, none⟩) hb).trans c1
        have d2 := (HB.out.cell (p := ⟨b, off + j * 3 + 2, none⟩) hb).trans c2
        have hkj := HK.out L[j] (List.getElem_mem hjL)
        rw [hx] at hkj
        have HX := hide (show L[j]? = some (f0, f1, f2) by rw [List.getElem?_eq_getElem hjL, hx])
        clear hcell c0 c1 c2 hx hjL
        go_wp2_with fail
        refine (szOp_any f0 f1 f2 x _ hkj.1 hkj.2 hx0 hx1).mono ?_
        rintro e w1 ⟨y, rfl, hy0, hy1, hyf, hb1⟩
        have HB1 := hide (HB.out.trans (hb1.mono HB.out.size))
        have HF := hide hyf
        clear hb1 d0 d1 d2 HB hkj hyf
        by_cases hs : y < 0
        · go_wp2_with fail
          go_ret
          exact ⟨_, rfl, by omega, by omega, fun h => by omega, HB1.out⟩
        · go_wp2_with fail
          go_roundw
          case rel => exact ⟨y, j + 1, rfl, by go_num, by omega, by omega, by omega, fun i z hij hz => by
            rcases Nat.lt_or_ge i j with h | h
            · exact HA.out i z h hz
            · rw [show i = j by omega, HX.out] at hz
              rw [← Option.some.inj hz]
              exact HF.out (by omega), HB1⟩
          case measure => simp [intOf]; omega
      · have HJ := hide (show j = n by omega)
        go_wp2_with fail
        go_ret
        exact ⟨_, rfl, by omega, by omega, fun _ => ⟨by omega, fun z hz => by
          obtain ⟨i, hi, e⟩ := List.getElem_of_mem hz
          exact HA.out i z (by rw [HJ.out, HN.out]; exact hi) (by rw [List.getElem?_eq_getElem hi, e])⟩, HB.out⟩

theorem toOp_any (f0 : ByteArray) (f1 : Bool) (f2 : ByteArray) (w : World) :
    Calls Try.prog 55 #[.agg #[.string f0, .bool f1, .string f2]] w fun e w' => e = .returned (.agg #[.string f0, .bool f1, .string f2]) ∧ Below w.heap.size w w' := by
  go_enter Try.func55, Try.ntmps55
  go_wp2
  exact bodyPost_ret (v := .agg #[.string f0, .bool f1, .string f2]) (by simp [results, Try.results55, go_sem]) rfl ⟨rfl, (((Below.refl _ _).alloc (Nat.le_refl _) _).alloc (by simp) _).alloc (by simp; omega) _⟩

theorem toOpS_any (a : Option Addr) (cap : Nat) (L : List OpE) (w : World) (hr : elOp.Rd w w.heap.size a L) (hl : L.length ≤ 1048576) :
    Calls Try.prog 24 #[.slice a L.length cap] w fun e w' => e = .returned (.slice (some ⟨w.heap.size, 0, none⟩) L.length L.length) ∧ elOp.Holds w' w.heap.size L ∧ Below w.heap.size w w' ∧ w.heap.size < w'.heap.size := by
  have HR := hide hr
  clear hr
  obtain ⟨n, hn⟩ : ∃ n, n = L.length := ⟨_, rfl⟩
  have HN := hide hn
  rw [← hn] at hl
  rw [← hn]
  clear hn
  have hmk := makeOp n (by omega) w
  go_enter Try.func24, Try.ntmps24
  go_wp2_with fail
  clear hmk
  go_loopw [4] (fun i wr => ∃ j : Nat, i = .int .i64 j ∧ j ≤ n ∧ Hid (elOp.Holds wr w.heap.size (fillG zeroOp L j)) ∧ Hid (Below w.heap.size w wr) ∧ w.heap.size < wr.heap.size) (fun i _ => n - (intOf i).toNat)
  case atStart =>
    refine ⟨0, rfl, by omega, ?_, (Below.refl _ _).alloc (Nat.le_refl _) _, by simp⟩
    show elOp.Holds _ _ _
    rw [fillG_zero, ← HN.out]
    exact El.Holds.new w _
  case round =>
    obtain ⟨j, rfl, hj, HH, HB, hsz⟩ := hrel
    by_cases hlt : j < n
    · have hjL : j < L.length := by rw [← HN.out]; exact hlt
      obtain ⟨b, off, rfl, hb, hcell⟩ := HR.out (by omega)
      obtain ⟨f0, f1, f2, hx⟩ := partsOp L[j]
      obtain ⟨c0, c1, c2⟩ := cellsOp hx (hcell j hjL)
      have d0 := (HB.out.cell (p := ⟨b, off + j * 3, none⟩) hb).trans c0
      have d1 := (HB.out.cell (p := ⟨b, off + j * 3 + 1, none⟩) hb).trans c1
      have d2 := (HB.out.cell (p := ⟨b, off + j * 3 + 2, none⟩) hb).trans c2
      have HJ := hide (show j < L.length from hjL)
      have HX := hide (show L[j]? = some (f0, f1, f2) by rw [List.getElem?_eq_getElem hjL, hx])
      clear hcell c0 c1 c2 hx hjL
      go_wp2_with fail
      refine (toOp_any f0 f1 f2 _).mono ?_
      rintro e w1 ⟨rfl, hb1⟩
      have HH1 := hide (HH.out.below hb1 hsz)
      have HB1 := hide (HB.out.trans (hb1.mono HB.out.size))
      have hsz1 : w.heap.size < w1.heap.size := by have := hb1.size; omega
      clear hb1 d0 d1 d2 HB HH hsz
      have hlf : j < (fillG zeroOp L j).length := by rw [length_fillG _ L j (by have := HJ.out; omega)]; exact HJ.out
      obtain ⟨q0, q1, q2, hq⟩ := partsOp (fillG zeroOp L j)[j]
      obtain ⟨e0, e1, e2⟩ := cells0Op hq (HH1.out.cell j hlf)
      have g0 := HH1.out.frozen (j * 3)
      have g1 := HH1.out.frozen (j * 3 + 1)
      have g2 := HH1.out.frozen (j * 3 + 2)
      have HQ := hide (show (fillG zeroOp L j)[j]? = some (q0, q1, q2) by rw [List.getElem?_eq_getElem hlf, hq])
      clear hq hlf
      go_wp2_with fail
      go_roundw
      case rel =>
        refine ⟨j + 1, by go_num, by omega, ?_, (((HB1.out.setCell (Nat.le_refl _) _).setCell (Nat.le_refl _) _).setCell (Nat.le_refl _) _), by simpa using hsz1⟩
        show elOp.Holds _ _ _
        rw [← fillG_put zeroOp L j _ HX.out]
        have s0 := HH1.out.setAt j _ HQ.out 0 (by decide) (.string f0) (f0, q1, q2) rfl
        have s1 := s0.setAt j _ (set_at _ HQ.out) 1 (by decide) (.bool f1) (f0, f1, q2) rfl
        rw [List.set_set] at s1
        have s2 := s1.setAt j _ (set_at _ HQ.out) 2 (by decide) (.string f2) (f0, f1, f2) rfl
        rw [List.set_set] at s2
        exact s2
      case measure => simp [intOf]; omega
    · have HJ := hide (show fillG zeroOp L j = L by rw [show j = L.length by rw [← HN.out]; omega, fillG_all])
      go_wp2_with fail
      go_ret
      exact ⟨rfl, by rw [← HJ.out]; exact HH.out, HB.out, hsz⟩
end Go.Proofs.Ytmdhihgfnlnbnaa

/-
  Contracts of laws.eqOp and of its rows. (Written by mkrow.py.)
-/
namespace Go.Proofs.Ytmdhihgfnlnbnaa
open Go.ChangeShapes Go.WideShapes Go.ChangeAt Go.RowKit

theorem eqOp_same (f0 : ByteArray) (f1 : Bool) (f2 : ByteArray) (w : World) :
    Calls Try.prog 56 #[.agg #[.string f0, .bool f1, .string f2], .agg #[.string f0, .bool f1, .string f2]] w (TruePost w) := by
  go_enter Try.func56, Try.ntmps56
  go_wp2
  go_ret
  exact ⟨rfl, ((Below.refl _ _).alloc (Nat.le_refl _) _).alloc (by simp) _⟩

set_option maxRecDepth 40000 in
theorem eqOpS_same (a1 a2 : Option Addr) (c1 c2 : Nat) (L : List OpE) (w : World) (h1 : elOp.Rd w w.heap.size a1 L) (h2 : elOp.Rd w w.heap.size a2 L) (hl : L.length ≤ 2097152) :
    Calls Try.prog 25 #[.slice a1 L.length c1, .slice a2 L.length c2] w (TruePost w) := by
  have H1 := hide h1
  have H2 := hide h2
  clear h1 h2
  obtain ⟨n, hn⟩ : ∃ n, n = L.length := ⟨_, rfl⟩
  have HN := hide hn
  rw [← hn] at hl
  rw [← hn]
  clear hn
  go_enter Try.func25, Try.ntmps25
  go_wp2_with fail
  go_loopw [5] (fun i wr => ∃ j : Nat, i = .int .i64 j ∧ j ≤ n ∧ Hid (Below w.heap.size w wr)) (fun i _ => n - (intOf i).toNat)
  case atStart => exact ⟨0, rfl, by omega, Below.refl _ _⟩
  case round =>
    obtain ⟨j, rfl, hj, HB⟩ := hrel
    by_cases hlt : j < n
    · have hjL : j < L.length := by rw [← HN.out]; exact hlt
      obtain ⟨b1, o1, rfl, hb1, hc1⟩ := H1.out (by omega)
      obtain ⟨b2, o2, rfl, hb2, hc2⟩ := H2.out (by omega)
      obtain ⟨f0, f1, f2, hx⟩ := partsOp L[j]
      obtain ⟨p0, p1, p2⟩ := cellsOp hx (hc1 j hjL)
      obtain ⟨q0, q1, q2⟩ := cellsOp hx (hc2 j hjL)
      have d0 := (HB.out.cell (p := ⟨b1, o1 + j * 3, none⟩) hb1).trans p0
      have d1 := (HB.out.cell (p := ⟨b1, o1 + j * 3 + 1, none⟩) hb1).trans p1
      have d2 := (HB.out.cell (p := ⟨b1, o1 + j * 3 + 2, none⟩) hb1).trans p2
      have e0 := (HB.out.cell (p := ⟨b2, o2 + j * 3, none⟩) hb2).trans q0
      have e1 := (HB.out.cell (p := ⟨b2, o2 + j * 3 + 1, none⟩) hb2).trans q1
      have e2 := (HB.out.cell (p := ⟨b2, o2 + j * 3 + 2, none⟩) hb2).trans q2
      clear hc1 hc2 p0 q0 p1 q1 p2 q2 hjL hx
      go_wp2_with fail
      go_still_tail 8, (by kernel_rfl)
      change wpList _ _ _ _ _ wr.drew
      go_wp2_with fail
      refine (eqOp_same f0 f1 f2 _).mono ?_
      rintro e w1 ⟨rfl, hb⟩
      have HB1 := hide (HB.out.drew.trans (hb.mono HB.out.size))
      clear hb HB d0 e0 d1 e1 d2 e2
      go_wp2_with fail
      go_roundw
      case rel => exact ⟨j + 1, by go_num, by omega, HB1⟩
      case measure => simp [intOf]; omega
    · go_wp2_with fail
      go_ret
      exact ⟨rfl, HB.out⟩
end Go.Proofs.Ytmdhihgfnlnbnaa
