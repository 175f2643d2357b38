/-
  Contracts of laws.szStringS, toStringS, eqStringS over rows of strings; the opener of such a parameter.
-/
import Derived.Test.YtncfodifcgjicaaDoorStrRow
import Derived.Test.YtncfodifcgjicaaDoorRowO
import Derived.Deep.QuietTactic
import Derived.BigQuiet
namespace Go.Proofs.YtncfodifcgjicaaDoor
open Go.ChangeShapes Go.WideShapes Go.ChangeAt Go.RowKit Go.Joins

theorem cellStr {w : World} {b o j : Nat} {L : List ByteArray} {hj : j < L.length} (h : ∀ i, i < 1 → w.cell? ⟨b, o + j * 1 + i, none⟩ = (elStr.enc L[j])[i]?) : w.cell? ⟨b, o + j, none⟩ = some (.string L[j]) := by
  have := h 0 (by omega)
  rwa [Nat.mul_one, Nat.add_zero] at this
theorem El.Rd.str {w : World} {B : Nat} {a : Option Addr} {L : List ByteArray} (h : elStr.Rd w B a L) (hp : 0 < L.length) : ∃ b off, a = some ⟨b, off, none⟩ ∧ b < B ∧ ∀ j (hj : j < L.length), w.cell? ⟨b, off + j, none⟩ = some (.string L[j]) := by
  obtain ⟨b, off, ha, hb, hc⟩ := h hp
  exact ⟨b, off, ha, hb, fun j hj => cellStr (hj := hj) (hc j hj)⟩

theorem szStr_any (a : Option Addr) (cap : Nat) (L : List ByteArray) (left : Int) (w : World) (hr : elStr.Rd w w.heap.size a L) (hl : L.length ≤ maxLen) (hk : ∀ x ∈ L, x.size ≤ maxLen) (h0 : 0 ≤ left) (h1 : left ≤ 1048576) :
    Calls Tryd.prog 13 #[.slice a L.length cap, .int .i64 left] w (SzPost w (L.length ≤ 1048576 ∧ ∀ x ∈ L, x.size ≤ 1048576)) := by
  have HR := hide hr
  have HK := hide hk
  clear hr hk
  unfold maxLen at hl
  obtain ⟨n, hn⟩ : ∃ n, n = L.length := ⟨_, rfl⟩
  have HN := hide hn
  rw [← hn] at hl
  rw [← hn]
  by_cases hc : left < n
  · clear hn
    go_enter Tryd.func13, Tryd.ntmps13
    go_wp2
    go_ret
    exact ⟨_, rfl, by omega, by omega, fun h => by omega, Below.refl _ _⟩
  · clear hn
    go_enter Tryd.func13, Tryd.ntmps13
    go_wp2_with fail
    go_loopw [1, 5] (fun l i wr => ∃ (x : Int) (j : Nat), l = .int .i64 x ∧ i = .int .i64 j ∧ j ≤ n ∧ 0 ≤ x ∧ x ≤ 1048576 ∧ Hid (∀ i x, i < j → L[i]? = some x → x.size ≤ 1048576) ∧ Hid (Below w.heap.size w wr)) (fun _ i _ => n - (intOf i).toNat)
    case atStart => exact ⟨_, 0, rfl, rfl, by omega, by omega, by omega, fun i _ hi _ => by omega, Below.refl _ _⟩
    case round =>
      obtain ⟨x, j, rfl, rfl, hj, hx0, hx1, HA, HB⟩ := hrel
      by_cases hlt : j < n
      · have hjL : j < L.length := by rw [← HN.out]; exact hlt
        obtain ⟨b, off, rfl, hb, hcell⟩ := HR.out.str (by omega)
        have c0 := hcell j hjL
        have hkj := HK.out L[j] (List.getElem_mem hjL)
        have HX := hide (show L[j]? = some L[j] from List.getElem?_eq_getElem hjL)
        generalize L[j] = s at *
        have d0 := (HB.out.cell (p := ⟨b, off + j, none⟩) hb).trans c0
        clear hcell c0
        unfold maxLen at hkj
        by_cases hs : x < s.size
        · go_wp2_with fail
          go_ret
          exact ⟨_, rfl, by omega, by omega, fun h => by omega, HB.out⟩
        · go_wp2_with fail
          go_roundw
          case rel => exact ⟨x - s.size, j + 1, by go_num, by go_num, by omega, by omega, by omega, fun i z hij hz => by
            rcases Nat.lt_or_ge i j with h | h
            · exact HA.out i z h hz
            · rw [show i = j by omega, HX.out] at hz
              rw [← Option.some.inj hz]
              omega, HB⟩
          case measure => simp [intOf]; omega
      · have HJ := hide (show j = n by omega)
        go_wp2_with fail
        go_ret
        exact ⟨_, rfl, by omega, by omega, fun _ => ⟨by omega, fun z hz => by
          obtain ⟨i, hi, e⟩ := List.getElem_of_mem hz
          exact HA.out i z (by rw [HJ.out, HN.out]; exact hi) (by rw [List.getElem?_eq_getElem hi, e])⟩, HB.out⟩

theorem makeStr (n : Nat) (hn : n ≤ 1099511627776) (w : World) : (Instr.makeSlice 24 (.int .i64 (n : Int)) (.int .i64 (n : Int))).run Tryd.prog w = .ok (.slice (some ⟨w.heap.size, 0, none⟩) n n) (w.alloc (.cells (elStr.vals (List.replicate n ⟨#[]⟩)).toArray 9)) :=
  elStr.run_make 24 ⟨#[]⟩ (.string ⟨#[]⟩) 16 Tryd.underlying24 infoStr rfl (by decide) (by decide) n hn w
theorem toStr_any (a : Option Addr) (cap : Nat) (L : List ByteArray) (w : World) (hr : elStr.Rd w w.heap.size a L) (hl : L.length ≤ 1048576) :
    Calls Tryd.prog 14 #[.slice a L.length cap] w fun e w' => e = .returned (.slice (some ⟨w.heap.size, 0, none⟩) L.length L.length) ∧ elStr.Holds w' w.heap.size L ∧ Below w.heap.size w w' ∧ w.heap.size < w'.heap.size := by
  have HR := hide hr
  clear hr
  obtain ⟨n, hn⟩ : ∃ n, n = L.length := ⟨_, rfl⟩
  have HN := hide hn
  rw [← hn] at hl
  rw [← hn]
  clear hn
  have hmk := makeStr n (by omega) w
  go_enter Tryd.func14, Tryd.ntmps14
  go_wp2_with fail
  clear hmk
  go_loopw [4] (fun i wr => ∃ j : Nat, i = .int .i64 j ∧ j ≤ n ∧ Hid (elStr.Holds wr w.heap.size (fillG ⟨#[]⟩ L j)) ∧ Hid (Below w.heap.size w wr) ∧ w.heap.size < wr.heap.size) (fun i _ => n - (intOf i).toNat)
  case atStart =>
    refine ⟨0, rfl, by omega, ?_, (Below.refl _ _).alloc (Nat.le_refl _) _, by simp⟩
    show elStr.Holds _ _ _
    rw [fillG_zero, ← HN.out]
    exact El.Holds.new w _
  case round =>
    obtain ⟨j, rfl, hj, HH, HB, hsz⟩ := hrel
    by_cases hlt : j < n
    · have hjL : j < L.length := by rw [← HN.out]; exact hlt
      obtain ⟨b, off, rfl, hb, hcell⟩ := HR.out.str (by omega)
      have d0 := (HB.out.cell (p := ⟨b, off + j, none⟩) hb).trans (hcell j hjL)
      have HX := hide (show L[j]? = some L[j] from List.getElem?_eq_getElem hjL)
      have hlf : j < (fillG ⟨#[]⟩ L j).length := by rw [length_fillG _ L j (by omega)]; exact hjL
      have e0 := HH.out.cell j hlf 0 (by decide)
      rw [show j * elStr.c + 0 = j from by show j * 1 + 0 = j; omega] at e0
      have g0 := HH.out.frozen j
      have HQ := hide (show (fillG ⟨#[]⟩ L j)[j]? = some (fillG ⟨#[]⟩ L j)[j] from List.getElem?_eq_getElem hlf)
      have e1 : wr.cell? ⟨w.heap.size, j, none⟩ = some (.string (fillG ⟨#[]⟩ L j)[j]) := e0
      generalize (fillG ⟨#[]⟩ L j)[j] = z at *
      generalize L[j] = s at *
      clear hcell hjL hlf e0
      go_wp2_with fail
      go_roundw
      case rel =>
        refine ⟨j + 1, by go_num, by omega, ?_, HB.out.setCell (Nat.le_refl _) _, by simpa using hsz⟩
        show elStr.Holds _ _ _
        rw [← fillG_put ⟨#[]⟩ L j _ HX.out]
        have s0 := HH.out.setAt j _ HQ.out 0 (by decide) (.string s) s rfl
        rw [show j * elStr.c + 0 = j from by show j * 1 + 0 = j; omega] at s0
        exact s0
      case measure => simp [intOf]; omega
    · have HJ := hide (show fillG ⟨#[]⟩ L j = L by rw [show j = L.length by rw [← HN.out]; omega, fillG_all])
      go_wp2_with fail
      go_ret
      exact ⟨rfl, by rw [← HJ.out]; exact HH.out, HB.out, hsz⟩

theorem eqStr_same (a1 a2 : Option Addr) (c1 c2 : Nat) (L : List ByteArray) (w : World) (h1 : elStr.Rd w w.heap.size a1 L) (h2 : elStr.Rd w w.heap.size a2 L) (hl : L.length ≤ 2097152) :
    Calls Tryd.prog 15 #[.slice a1 L.length c1, .slice a2 L.length c2] w (TruePost w) := by
  have H1 := hide h1
  have H2 := hide h2
  clear h1 h2
  obtain ⟨n, hn⟩ : ∃ n, n = L.length := ⟨_, rfl⟩
  have HN := hide hn
  rw [← hn] at hl
  rw [← hn]
  clear hn
  go_enter Tryd.func15, Tryd.ntmps15
  go_wp2_with fail
  go_loopw [5] (fun i wr => ∃ j : Nat, i = .int .i64 j ∧ j ≤ n ∧ Hid (Below w.heap.size w wr)) (fun i _ => n - (intOf i).toNat)
  case atStart => exact ⟨0, rfl, by omega, Below.refl _ _⟩
  case round =>
    obtain ⟨j, rfl, hj, HB⟩ := hrel
    by_cases hlt : j < n
    · have hjL : j < L.length := by rw [← HN.out]; exact hlt
      obtain ⟨b1, o1, rfl, hb1, hc1⟩ := H1.out.str (by omega)
      obtain ⟨b2, o2, rfl, hb2, hc2⟩ := H2.out.str (by omega)
      have d0 := (HB.out.cell (p := ⟨b1, o1 + j, none⟩) hb1).trans (hc1 j hjL)
      have e0 := (HB.out.cell (p := ⟨b2, o2 + j, none⟩) hb2).trans (hc2 j hjL)
      generalize L[j] = s at *
      clear hc1 hc2 hjL
      go_wp2_with fail
      go_quiet (fail)
      go_wp2_with fail
      go_roundw
      case rel => exact ⟨j + 1, by go_num, by omega, ⟨HB.out.os, HB.out.tape, HB.out.output, HB.out.size, HB.out.block⟩⟩
      case measure => simp [intOf]; omega
    · go_wp2_with fail
      go_ret
      exact ⟨rfl, HB.out⟩

theorem openStrS {H : Type} {enc : TypeId × Value → H} {W : World} {base : Nat} {v : Value} {d : DataW H} {p : List MemPlace}
    (hv : Value.okWide Tryd.prog W .any base 24 v) (h : DataW.Trod enc Tryd.prog W 0 (fun _ => true) true 24 v d p) :
    ∃ (a : Option Addr) (cap : Nat) (L : List ByteArray), v = .slice a L.length cap ∧ elStr.Rd W W.heap.size a L ∧ L.length ≤ maxLen ∧ (∀ z ∈ L, z.size ≤ maxLen) := by
  obtain ⟨a0, len0, cap0, rfl⟩ := okWide_slice Tryd.underlying24 hv
  obtain ⟨fuel, hf⟩ := h
  obtain ⟨a, cap, L, hcs, h1, h2, h3, _⟩ := elStr.open (fun z => z.size ≤ maxLen) Tryd.underlying24 (by kernel_rfl) (by decide) (fun m cs y h => by
    obtain ⟨s0, e0, _, h0⟩ := DataW.trod_string Tryd.underlying9 h
    subst e0
    exact ⟨s0, rfl, h0⟩) hf
  simp [Value.cells] at hcs
  obtain ⟨rfl, rfl, rfl⟩ := hcs
  exact ⟨_, _, L, rfl, h1, h2, h3⟩
end Go.Proofs.YtncfodifcgjicaaDoor
