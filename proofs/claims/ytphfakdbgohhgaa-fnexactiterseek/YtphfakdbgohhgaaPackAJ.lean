/-
  Texts of this proof, put together: RowKV, SzKV, EqKV, RowEnt, ResE.
-/
import Derived.Test.YtphfakdbgohhgaaPackAD
import Derived.Test.YtphfakdbgohhgaaPackAC
import Derived.StillTailTactics

/-
  Rows of impl.KV (string, string) in memory. (Written by mkrow.py.)
-/
namespace Go.Proofs.Ytphfakdbgohhgaa
open Go.ChangeShapes Go.WideShapes Go.ChangeAt Go.RowKit

abbrev KVE := ByteArray × ByteArray
def elKV : El KVE where
  T := 41
  c := 2
  enc := fun x => [.string x.1, .string x.2]
  len := fun _ => rfl
  one := fun x v hv => by
    simp only [List.mem_cons, List.not_mem_nil, or_false] at hv
    rcases hv with rfl | rfl <;> rfl
def zeroKV : KVE := (⟨#[]⟩, ⟨#[]⟩)
theorem infoKV : (Try.prog.info? 41).map (fun i => (i.zero, i.size, i.bytes)) = some (some (.agg #[.string ⟨#[]⟩, .string ⟨#[]⟩]), 2, 32) := by kernel_rfl
theorem makeKV (n : Nat) (hn : n ≤ 1099511627776) (w : World) : (Instr.makeSlice 37 (.int .i64 (n : Int)) (.int .i64 (n : Int))).run Try.prog w = .ok (.slice (some ⟨w.heap.size, 0, none⟩) n n) (w.alloc (.cells (elKV.vals (List.replicate n zeroKV)).toArray 41)) :=
  elKV.run_make 37 zeroKV (.agg #[.string ⟨#[]⟩, .string ⟨#[]⟩]) 32 Try.underlying37 infoKV rfl (by decide) (by decide) n hn w
/-- the cells of element j, as the walk spells them -/
theorem cellsKV {w : World} {b o j : Nat} {L : List KVE} {hj : j < L.length} {f0 f1} (hx : L[j] = (f0, f1)) (h : ∀ i, i < 2 → w.cell? ⟨b, o + j * 2 + i, none⟩ = (elKV.enc L[j])[i]?) :
    w.cell? ⟨b, o + j * 2, none⟩ = some (.string f0) ∧ w.cell? ⟨b, o + j * 2 + 1, none⟩ = some (.string f1) := by
  rw [hx] at h
  exact ⟨h 0 (by omega), h 1 (by omega)⟩
theorem cells0KV {w : World} {b j : Nat} {L : List KVE} {hj : j < L.length} {f0 f1} (hx : L[j] = (f0, f1)) (h : ∀ i, i < 2 → w.cell? ⟨b, j * 2 + i, none⟩ = (elKV.enc L[j])[i]?) :
    w.cell? ⟨b, j * 2, none⟩ = some (.string f0) ∧ w.cell? ⟨b, j * 2 + 1, none⟩ = some (.string f1) := by
  rw [hx] at h
  exact ⟨h 0 (by omega), h 1 (by omega)⟩
theorem cellsXKV {w : World} {b o : Nat} {f0 f1} (h : ∀ i, i < 2 → w.cell? ⟨b, o + i, none⟩ = (elKV.enc (f0, f1))[i]?) :
    w.cell? ⟨b, o, none⟩ = some (.string f0) ∧ w.cell? ⟨b, o + 1, none⟩ = some (.string f1) := ⟨h 0 (by omega), h 1 (by omega)⟩
theorem partsKV (x : KVE) : ∃ f0 f1, x = (f0, f1) := ⟨_, _, rfl⟩
/-- all strings of an element within 2^20 -/
def fitKV (x : KVE) : Prop := x.1.size ≤ 1048576 ∧ x.2.size ≤ 1048576
end Go.Proofs.Ytphfakdbgohhgaa

/-
  Contracts of laws.szKV, toKV and of their rows. (Written by mkrow.py.)
-/
namespace Go.Proofs.Ytphfakdbgohhgaa
open Go.ChangeShapes Go.WideShapes Go.ChangeAt Go.RowKit

theorem szKV_any (f0 : ByteArray) (f1 : ByteArray) (left : Int) (w : World) (hf0 : f0.size ≤ maxLen) (hf1 : f1.size ≤ maxLen) (h0 : 0 ≤ left) (h1 : left ≤ 1048576) :
    Calls Try.prog 74 #[.agg #[.string f0, .string f1], .int .i64 left] w fun e w' => ∃ x : Int, e = .returned (.int .i64 x) ∧ -1 ≤ x ∧ x ≤ left ∧ (0 ≤ x → fitKV (f0, f1)) ∧ Below w.heap.size w w' := by
  unfold maxLen at hf0 hf1
  by_cases cf0 : left < (f0.size : Int)
  · go_enter Try.func74, Try.ntmps74
    go_wp2
    go_ret
    exact ⟨_, rfl, by omega, by omega, fun h => by omega, (Below.refl _ _).alloc (Nat.le_refl _) _⟩
  by_cases cf1 : left - f0.size < (f1.size : Int)
  · go_enter Try.func74, Try.ntmps74
    go_wp2
    go_ret
    exact ⟨_, rfl, by omega, by omega, fun h => by omega, (Below.refl _ _).alloc (Nat.le_refl _) _⟩
  go_enter Try.func74, Try.ntmps74
  go_wp2
  go_ret
  exact ⟨_, rfl, by omega, by omega, fun _ => by unfold fitKV; simp only; omega, (Below.refl _ _).alloc (Nat.le_refl _) _⟩

theorem szKVS_any (a : Option Addr) (cap : Nat) (L : List KVE) (left : Int) (w : World) (hr : elKV.Rd w w.heap.size a L) (hl : L.length ≤ maxLen) (hk : ∀ x ∈ L, x.1.size ≤ maxLen ∧ x.2.size ≤ maxLen) (h0 : 0 ≤ left) (h1 : left ≤ 1048576) :
    Calls Try.prog 36 #[.slice a L.length cap, .int .i64 left] w (SzPost w (L.length ≤ 1048576 ∧ ∀ x ∈ L, fitKV x)) := by
  have HR := hide hr
  have HK := hide hk
  clear hr hk
  unfold maxLen at hl
  obtain ⟨n, hn⟩ : ∃ n, n = L.length := ⟨_, rfl⟩
  have HN := hide hn
  rw [← hn] at hl
  rw [← hn]
  by_cases hc : left < n
  · clear hn
    go_enter Try.func36, Try.ntmps36
    go_wp2
    go_ret
    exact ⟨_, rfl, by omega, by omega, fun h => by omega, Below.refl _ _⟩
  · clear hn
    go_enter Try.func36, Try.ntmps36
    go_wp2_with fail
    go_loopw [1, 5] (fun l i wr => ∃ (x : Int) (j : Nat), l = .int .i64 x ∧ i = .int .i64 j ∧ j ≤ n ∧ 0 ≤ x ∧ x ≤ 1048576 ∧ Hid (∀ i x, i < j → L[i]? = some x → fitKV x) ∧ Hid (Below w.heap.size w wr)) (fun _ i _ => n - (intOf i).toNat)
    case atStart => exact ⟨_, 0, rfl, rfl, by omega, by omega, by omega, fun i _ hi _ => by omega, Below.refl _ _⟩
    case round =>
      obtain ⟨x, j, rfl, rfl, hj, hx0, hx1, HA, HB⟩ := hrel
      by_cases hlt : j < n
      · have hjL : j < L.length := by rw [← HN.out]; exact hlt
        obtain ⟨b, off, rfl, hb, hcell⟩ := HR.out (by omega)
        obtain ⟨f0, f1, hx⟩ := partsKV L[j]
        obtain ⟨c0, c1⟩ := cellsKV hx (hcell j hjL)
        have d0 := (HB.out.cell (p := ⟨b, off + j * 2, none⟩) hb).trans c0
        have d1 := (HB.out.cell (p := ⟨b, off + j * 2 + 1, none⟩) hb).trans c1
        have hkj := HK.out L[j] (List.getElem_mem hjL)
        rw [hx] at hkj
        have HX := hide (show L[j]? = some (f0, f1) by rw [List.getElem?_eq_getElem hjL, hx])
        clear hcell c0 c1 hx hjL
        go_wp2_with fail
        refine (szKV_any f0 f1 x _ hkj.1 hkj.2 hx0 hx1).mono ?_
        rintro e w1 ⟨y, rfl, hy0, hy1, hyf, hb1⟩
        have HB1 := hide (HB.out.trans (hb1.mono HB.out.size))
        have HF := hide hyf
        clear hb1 d0 d1 HB hkj hyf
        by_cases hs : y < 0
        · go_wp2_with fail
          go_ret
          exact ⟨_, rfl, by omega, by omega, fun h => by omega, HB1.out⟩
        · go_wp2_with fail
          go_roundw
          case rel => exact ⟨y, j + 1, rfl, by go_num, by omega, by omega, by omega, fun i z hij hz => by
            rcases Nat.lt_or_ge i j with h | h
            · exact HA.out i z h hz
            · rw [show i = j by omega, HX.out] at hz
              rw [← Option.some.inj hz]
              exact HF.out (by omega), HB1⟩
          case measure => simp [intOf]; omega
      · have HJ := hide (show j = n by omega)
        go_wp2_with fail
        go_ret
        exact ⟨_, rfl, by omega, by omega, fun _ => ⟨by omega, fun z hz => by
          obtain ⟨i, hi, e⟩ := List.getElem_of_mem hz
          exact HA.out i z (by rw [HJ.out, HN.out]; exact hi) (by rw [List.getElem?_eq_getElem hi, e])⟩, HB.out⟩

theorem toKV_any (f0 : ByteArray) (f1 : ByteArray) (w : World) :
    Calls Try.prog 76 #[.agg #[.string f0, .string f1]] w fun e w' => e = .returned (.agg #[.string f0, .string f1]) ∧ Below w.heap.size w w' := by
  go_enter Try.func76, Try.ntmps76
  go_wp2
  exact bodyPost_ret (v := .agg #[.string f0, .string f1]) (by simp [results, Try.results76, go_sem]) rfl ⟨rfl, (((Below.refl _ _).alloc (Nat.le_refl _) _).alloc (by simp) _).alloc (by simp; omega) _⟩

theorem toKVS_any (a : Option Addr) (cap : Nat) (L : List KVE) (w : World) (hr : elKV.Rd w w.heap.size a L) (hl : L.length ≤ 1048576) :
    Calls Try.prog 38 #[.slice a L.length cap] w fun e w' => e = .returned (.slice (some ⟨w.heap.size, 0, none⟩) L.length L.length) ∧ elKV.Holds w' w.heap.size L ∧ Below w.heap.size w w' ∧ w.heap.size < w'.heap.size := by
  have HR := hide hr
  clear hr
  obtain ⟨n, hn⟩ : ∃ n, n = L.length := ⟨_, rfl⟩
  have HN := hide hn
  rw [← hn] at hl
  rw [← hn]
  clear hn
  have hmk := makeKV n (by omega) w
  go_enter Try.func38, Try.ntmps38
  go_wp2_with fail
  clear hmk
  go_loopw [4] (fun i wr => ∃ j : Nat, i = .int .i64 j ∧ j ≤ n ∧ Hid (elKV.Holds wr w.heap.size (fillG zeroKV L j)) ∧ Hid (Below w.heap.size w wr) ∧ w.heap.size < wr.heap.size) (fun i _ => n - (intOf i).toNat)
  case atStart =>
    refine ⟨0, rfl, by omega, ?_, (Below.refl _ _).alloc (Nat.le_refl _) _, by simp⟩
    show elKV.Holds _ _ _
    rw [fillG_zero, ← HN.out]
    exact El.Holds.new w _
  case round =>
    obtain ⟨j, rfl, hj, HH, HB, hsz⟩ := hrel
    by_cases hlt : j < n
    · have hjL : j < L.length := by rw [← HN.out]; exact hlt
      obtain ⟨b, off, rfl, hb, hcell⟩ := HR.out (by omega)
      obtain ⟨f0, f1, hx⟩ := partsKV L[j]
      obtain ⟨c0, c1⟩ := cellsKV hx (hcell j hjL)
      have d0 := (HB.out.cell (p := ⟨b, off + j * 2, none⟩) hb).trans c0
      have d1 := (HB.out.cell (p := ⟨b, off + j * 2 + 1, none⟩) hb).trans c1
      have HJ := hide (show j < L.length from hjL)
      have HX := hide (show L[j]? = some (f0, f1) by rw [List.getElem?_eq_getElem hjL, hx])
      clear hcell c0 c1 hx hjL
      go_wp2_with fail
      refine (toKV_any f0 f1 _).mono ?_
      rintro e w1 ⟨rfl, hb1⟩
      have HH1 := hide (HH.out.below hb1 hsz)
      have HB1 := hide (HB.out.trans (hb1.mono HB.out.size))
      have hsz1 : w.heap.size < w1.heap.size := by have := hb1.size; omega
      clear hb1 d0 d1 HB HH hsz
      have hlf : j < (fillG zeroKV L j).length := by rw [length_fillG _ L j (by have := HJ.out; omega)]; exact HJ.out
      obtain ⟨q0, q1, hq⟩ := partsKV (fillG zeroKV L j)[j]
      obtain ⟨e0, e1⟩ := cells0KV hq (HH1.out.cell j hlf)
      have g0 := HH1.out.frozen (j * 2)
      have g1 := HH1.out.frozen (j * 2 + 1)
      have HQ := hide (show (fillG zeroKV L j)[j]? = some (q0, q1) by rw [List.getElem?_eq_getElem hlf, hq])
      clear hq hlf
      go_wp2_with fail
      go_roundw
      case rel =>
        refine ⟨j + 1, by go_num, by omega, ?_, ((HB1.out.setCell (Nat.le_refl _) _).setCell (Nat.le_refl _) _), by simpa using hsz1⟩
        show elKV.Holds _ _ _
        rw [← fillG_put zeroKV L j _ HX.out]
        have s0 := HH1.out.setAt j _ HQ.out 0 (by decide) (.string f0) (f0, q1) rfl
        have s1 := s0.setAt j _ (set_at _ HQ.out) 1 (by decide) (.string f1) (f0, f1) rfl
        rw [List.set_set] at s1
        exact s1
      case measure => simp [intOf]; omega
    · have HJ := hide (show fillG zeroKV L j = L by rw [show j = L.length by rw [← HN.out]; omega, fillG_all])
      go_wp2_with fail
      go_ret
      exact ⟨rfl, by rw [← HJ.out]; exact HH.out, HB.out, hsz⟩
end Go.Proofs.Ytphfakdbgohhgaa

/-
  Contracts of laws.eqKV and of its rows. (Written by mkrow.py.)
-/
namespace Go.Proofs.Ytphfakdbgohhgaa
open Go.ChangeShapes Go.WideShapes Go.ChangeAt Go.RowKit

theorem eqKV_same (f0 : ByteArray) (f1 : ByteArray) (w : World) :
    Calls Try.prog 44 #[.agg #[.string f0, .string f1], .agg #[.string f0, .string f1]] w (TruePost w) := by
  go_enter Try.func44, Try.ntmps44
  go_wp2
  go_ret
  exact ⟨rfl, ((Below.refl _ _).alloc (Nat.le_refl _) _).alloc (by simp) _⟩

set_option maxRecDepth 40000 in
theorem eqKVS_same (a1 a2 : Option Addr) (c1 c2 : Nat) (L : List KVE) (w : World) (h1 : elKV.Rd w w.heap.size a1 L) (h2 : elKV.Rd w w.heap.size a2 L) (hl : L.length ≤ 2097152) :
    Calls Try.prog 26 #[.slice a1 L.length c1, .slice a2 L.length c2] w (TruePost w) := by
  have H1 := hide h1
  have H2 := hide h2
  clear h1 h2
  obtain ⟨n, hn⟩ : ∃ n, n = L.length := ⟨_, rfl⟩
  have HN := hide hn
  rw [← hn] at hl
  rw [← hn]
  clear hn
  go_enter Try.func26, Try.ntmps26
  go_wp2_with fail
  go_loopw [5] (fun i wr => ∃ j : Nat, i = .int .i64 j ∧ j ≤ n ∧ Hid (Below w.heap.size w wr)) (fun i _ => n - (intOf i).toNat)
  case atStart => exact ⟨0, rfl, by omega, Below.refl _ _⟩
  case round =>
    obtain ⟨j, rfl, hj, HB⟩ := hrel
    by_cases hlt : j < n
    · have hjL : j < L.length := by rw [← HN.out]; exact hlt
      obtain ⟨b1, o1, rfl, hb1, hc1⟩ := H1.out (by omega)
      obtain ⟨b2, o2, rfl, hb2, hc2⟩ := H2.out (by omega)
      obtain ⟨f0, f1, hx⟩ := partsKV L[j]
      obtain ⟨p0, p1⟩ := cellsKV hx (hc1 j hjL)
      obtain ⟨q0, q1⟩ := cellsKV hx (hc2 j hjL)
      have d0 := (HB.out.cell (p := ⟨b1, o1 + j * 2, none⟩) hb1).trans p0
      have d1 := (HB.out.cell (p := ⟨b1, o1 + j * 2 + 1, none⟩) hb1).trans p1
      have e0 := (HB.out.cell (p := ⟨b2, o2 + j * 2, none⟩) hb2).trans q0
      have e1 := (HB.out.cell (p := ⟨b2, o2 + j * 2 + 1, none⟩) hb2).trans q1
      clear hc1 hc2 p0 q0 p1 q1 hjL hx
      go_wp2_with fail
      go_still_tail 8, (by kernel_rfl)
      change wpList _ _ _ _ _ wr.drew
      go_wp2_with fail
      refine (eqKV_same f0 f1 _).mono ?_
      rintro e w1 ⟨rfl, hb⟩
      have HB1 := hide (HB.out.drew.trans (hb.mono HB.out.size))
      clear hb HB d0 e0 d1 e1
      go_wp2_with fail
      go_roundw
      case rel => exact ⟨j + 1, by go_num, by omega, HB1⟩
      case measure => simp [intOf]; omega
    · go_wp2_with fail
      go_ret
      exact ⟨rfl, HB.out⟩
end Go.Proofs.Ytphfakdbgohhgaa

/-
  Rows of impl.Ent (string, int, bool, string) in memory. (Written by mkrow.py.)
-/
namespace Go.Proofs.Ytphfakdbgohhgaa
open Go.ChangeShapes Go.WideShapes Go.ChangeAt Go.RowKit

abbrev EntE := ByteArray × Int × Bool × ByteArray
def elEnt : El EntE where
  T := 26
  c := 4
  enc := fun x => [.string x.1, .int .i64 x.2.1, .bool x.2.2.1, .string x.2.2.2]
  len := fun _ => rfl
  one := fun x v hv => by
    simp only [List.mem_cons, List.not_mem_nil, or_false] at hv
    rcases hv with rfl | rfl | rfl | rfl <;> rfl
def zeroEnt : EntE := (⟨#[]⟩, 0, false, ⟨#[]⟩)
theorem infoEnt : (Try.prog.info? 26).map (fun i => (i.zero, i.size, i.bytes)) = some (some (.agg #[.string ⟨#[]⟩, .int .i64 0, .bool false, .string ⟨#[]⟩]), 4, 48) := by kernel_rfl
theorem makeEnt (n : Nat) (hn : n ≤ 1099511627776) (w : World) : (Instr.makeSlice 24 (.int .i64 (n : Int)) (.int .i64 (n : Int))).run Try.prog w = .ok (.slice (some ⟨w.heap.size, 0, none⟩) n n) (w.alloc (.cells (elEnt.vals (List.replicate n zeroEnt)).toArray 26)) :=
  elEnt.run_make 24 zeroEnt (.agg #[.string ⟨#[]⟩, .int .i64 0, .bool false, .string ⟨#[]⟩]) 48 Try.underlying24 infoEnt rfl (by decide) (by decide) n hn w
/-- the cells of element j, as the walk spells them -/
theorem cellsEnt {w : World} {b o j : Nat} {L : List EntE} {hj : j < L.length} {f0 f1 f2 f3} (hx : L[j] = (f0, f1, f2, f3)) (h : ∀ i, i < 4 → w.cell? ⟨b, o + j * 4 + i, none⟩ = (elEnt.enc L[j])[i]?) :
    w.cell? ⟨b, o + j * 4, none⟩ = some (.string f0) ∧ w.cell? ⟨b, o + j * 4 + 1, none⟩ = some (.int .i64 f1) ∧ w.cell? ⟨b, o + j * 4 + 2, none⟩ = some (.bool f2) ∧ w.cell? ⟨b, o + j * 4 + 3, none⟩ = some (.string f3) := by
  rw [hx] at h
  exact ⟨h 0 (by omega), h 1 (by omega), h 2 (by omega), h 3 (by omega)⟩
theorem cells0Ent {w : World} {b j : Nat} {L : List EntE} {hj : j < L.length} {f0 f1 f2 f3} (hx : L[j] = (f0, f1, f2, f3)) (h : ∀ i, i < 4 → w.cell? ⟨b, j * 4 + i, none⟩ = (elEnt.enc L[j])[i]?) :
    w.cell? ⟨b, j * 4, none⟩ = some (.string f0) ∧ w.cell? ⟨b, j * 4 + 1, none⟩ = some (.int .i64 f1) ∧ w.cell? ⟨b, j * 4 + 2, none⟩ = some (.bool f2) ∧ w.cell? ⟨b, j * 4 + 3, none⟩ = some (.string f3) := by
  rw [hx] at h
  exact ⟨h 0 (by omega), h 1 (by omega), h 2 (by omega), h 3 (by omega)⟩
theorem cellsXEnt {w : World} {b o : Nat} {f0 f1 f2 f3} (h : ∀ i, i < 4 → w.cell? ⟨b, o + i, none⟩ = (elEnt.enc (f0, f1, f2, f3))[i]?) :
    w.cell? ⟨b, o, none⟩ = some (.string f0) ∧ w.cell? ⟨b, o + 1, none⟩ = some (.int .i64 f1) ∧ w.cell? ⟨b, o + 2, none⟩ = some (.bool f2) ∧ w.cell? ⟨b, o + 3, none⟩ = some (.string f3) := ⟨h 0 (by omega), h 1 (by omega), h 2 (by omega), h 3 (by omega)⟩
theorem partsEnt (x : EntE) : ∃ f0 f1 f2 f3, x = (f0, f1, f2, f3) := ⟨_, _, _, _, rfl⟩
/-- all strings of an element within 2^20 -/
def fitEnt (x : EntE) : Prop := x.1.size ≤ 1048576 ∧ x.2.2.2.size ≤ 1048576
end Go.Proofs.Ytphfakdbgohhgaa

/-
  A result that is an entry in a block of its own, and something beside it.
-/
namespace Go.Proofs.Ytphfakdbgohhgaa
open Go.ChangeShapes Go.WideShapes Go.ChangeAt Go.RowKit

/-- a result that is an entry in a block of its own, and a bool -/
theorem res_ent' {fn : Func} {p u : Tmp} (h : fn.results = #[.cell p 26, .tmp u]) (tmps : Array Value) (w : World) (g : Nat) (ht : tmps.getD p undef = .pointer (some ⟨g, 0, none⟩)) {v0 v1 v2 v3 : Value} (hx : BoxV 26 w g #[v0, v1, v2, v3]) :
    (results fn tmps).run Try.prog w = .ok (.tuple #[.agg #[v0, v1, v2, v3], tmps.getD u undef]) w := by
  obtain ⟨c0, c1, c2, c3⟩ := hx.four'
  rw [Array.getD_eq_getD_getElem?] at ht
  simp only [results, h]
  simp [ht, go_sem, c0, c1, c2, c3]
end Go.Proofs.Ytphfakdbgohhgaa
