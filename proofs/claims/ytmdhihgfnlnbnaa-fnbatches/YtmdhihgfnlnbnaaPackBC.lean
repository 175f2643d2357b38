/-
  Texts of this proof, put together: MapF.
-/
import Derived.Test.YtmdhihgfnlnbnaaPackBA
import Derived.Test.YtmdhihgfnlnbnaaPackAE
import Derived.Test.YtmdhihgfnlnbnaaPackBB

/-
  Contract of impl.mapOf.
-/
namespace Go.Proofs.Ytmdhihgfnlnbnaa
open Go.ChangeShapes Go.WideShapes Go.ChangeAt Go.RowKit

theorem res_map {fn : Func} {p : Tmp} (h : fn.results = #[.cell p 59]) (tmps : Array Value) (w : World) (g : Nat) (ht : tmps.getD p undef = .pointer (some ⟨g, 0, none⟩)) {v0 v1 : Value} (hx : BoxV 59 w g #[v0, v1]) :
    (results fn tmps).run Try.prog w = .ok (.agg #[v0, v1]) w := by
  obtain ⟨c0, c1⟩ := hx.two
  rw [Array.getD_eq_getD_getElem?] at ht
  simp only [results, h]
  simp [ht, go_sem, c0, c1]
def MapPost (w : World) (L : List KV) (e : Ending) (w' : World) : Prop := ∃ vk vv, e = .returned (.agg #[vk, vv]) ∧ MapV w.heap.size w' vk vv L ∧ Below w.heap.size w w'
theorem Turn.cell {B g : Nat} {w w' : World} (h : Turn B g w w') {p : Addr} (hp : p.block < B) (hg : p.block ≠ g) : w'.cell? p = w.cell? p := World.cell?_of_block (w := w) (h.block p.block hp hg)
theorem take_snoc' {α : Type} {L : List α} {j : Nat} {x : α} (h : L[j]? = some x) : L.take (j + 1) = L.take j ++ [x] := by
  obtain ⟨hj, rfl⟩ := List.getElem?_eq_some_iff.1 h
  rw [List.take_succ_eq_append_getElem hj]
set_option maxHeartbeats 2000000 in
set_option maxRecDepth 20000 in
theorem mapOf_any (a : Option Addr) (cap : Nat) (L : List KV) (hs : Srt L) (w : World) (hr : elKV.Rd w w.heap.size a L) (hl : L.length ≤ 1099511627775) :
    Calls Try.prog 38 #[.slice a L.length cap] w (MapPost w L) := by
  have HR := hide hr
  have HS := hide hs
  clear hr
  obtain ⟨n, hn⟩ : ∃ n, n = L.length := ⟨_, rfl⟩
  have HN := hide hn
  have hnl : n ≤ 1099511627775 := by omega
  rw [← hn]
  clear hn
  obtain ⟨W0, hW0⟩ : ∃ W0, W0 = (w.alloc (.cells #[.slice none 0 0, .slice none 0 0] 59)).alloc (.cells #[.slice none 0 0, .slice none 0 0] 59) := ⟨_, rfl⟩
  obtain ⟨hA, hB, hb⟩ := two_boxV (w1 := W0) (by rw [hW0]; exact Below.refl _ _)
  have HA := hide hA
  have HB0 := hide hb
  have hz0 : W0.heap.size = w.heap.size + 2 := by rw [hW0]; simp
  have HM0 := hide (show MapIn (w.heap.size + 2) W0 (w.heap.size + 1) [] from ⟨_, _, hB, ⟨El.Owns.nil _ _, El.Owns.nil _ _, fun a ha => by cases ha⟩⟩)
  clear hA hB hb
  go_enter Try.func38, Try.ntmps38
  go_wp2_with fail
  rw [← hW0]
  clear hW0
  go_loopw [8] (fun i wr => ∃ j : Nat, i = .int .i64 j ∧ j ≤ n ∧ Hid (MapIn (w.heap.size + 2) wr (w.heap.size + 1) (L.take j)) ∧ Hid (Turn (w.heap.size + 2) (w.heap.size + 1) W0 wr)) (fun i _ => n - (intOf i).toNat)
  case atStart => exact ⟨0, rfl, by omega, by rw [List.take_zero]; exact HM0, Turn.refl _ _ _⟩
  case round =>
    obtain ⟨j, rfl, hj, HM, HT⟩ := hrel
    have hsz := HT.out.size
    by_cases hlt : j < n
    · have hjL : j < L.length := by rw [← HN.out]; exact hlt
      obtain ⟨b, off, rfl, hb, hcell⟩ := HR.out (by omega)
      obtain ⟨f0, f1, hx⟩ := partsKV L[j]
      obtain ⟨c0, c1⟩ := cellsKV hx (hcell j hjL)
      have d0 := (HT.out.cell (p := ⟨b, off + j * 2, none⟩) (by show b < _; omega) (by show b ≠ _; omega)).trans ((HB0.out.cell (p := ⟨b, off + j * 2, none⟩) hb).trans c0)
      have d1 := (HT.out.cell (p := ⟨b, off + j * 2 + 1, none⟩) (by show b < _; omega) (by show b ≠ _; omega)).trans ((HB0.out.cell (p := ⟨b, off + j * 2 + 1, none⟩) hb).trans c1)
      have HX := hide (show L[j]? = some (f0, f1) by rw [List.getElem?_eq_getElem hjL, hx])
      have HE := hide (show putK f0 f1 (L.take j) = L.take (j + 1) by
        have h1 := take_snoc' HX.out
        rw [h1]
        exact putK_snoc (x := (f0, f1)) (by rw [← h1]; exact srt_take HS.out _))
      have HST := hide (fun W (h : MapIn (w.heap.size + 2) W (w.heap.size + 1) (L.take j)) hB => set_any (w.heap.size + 2) (w.heap.size + 1) (L.take j) (srt_take HS.out j) (by rw [List.length_take]; omega) f0 f1 W h hB)
      rw [HE.out] at HST
      clear hcell c0 c1 hx hjL HX HE
      go_wp2_with fail
      have HMa := hide (HM.out.below ((Below.refl wr.heap.size wr).alloc (Nat.le_refl _) (.cells #[.string f0, .string f1] 56)) (Nat.le_refl _))
      refine (HST.out _ HMa.out (by simp; omega)).mono ?_
      rintro e w2 ⟨rfl, hm2, ht2⟩
      have HM2 := hide hm2
      have HT2 := hide ((HT.out.trans (Turn.of_below ((Below.refl wr.heap.size wr).alloc (Nat.le_refl _) (.cells #[.string f0, .string f1] 56)) (by omega))).trans ht2)
      clear hm2 ht2 HMa HST
      go_wp2_with fail
      go_roundw
      case rel => exact ⟨j + 1, by go_num, by omega, HM2, HT2⟩
      case measure => simp [intOf]; omega
    · have HM1 := hide (show MapIn (w.heap.size + 2) wr (w.heap.size + 1) L by
        have := HM.out
        rwa [List.take_of_length_le (by rw [← HN.out]; omega)] at this)
      obtain ⟨vk, vv, hx, hmv⟩ := HM1.out
      have HXA := hide (show BoxV 59 wr w.heap.size _ from (HT.out.block w.heap.size (by omega) (by omega)).trans HA.out)
      obtain ⟨a1, k1, rfl, _⟩ := hmv.keys.form
      obtain ⟨a2, k2, rfl, _⟩ := hmv.vals.form
      have HX := hide hx
      have HMV := hide hmv
      obtain ⟨n1, hn1⟩ : ∃ n1, n1 = (L.map Prod.fst).length := ⟨_, rfl⟩
      obtain ⟨n2, hn2⟩ : ∃ n2, n2 = (L.map Prod.snd).length := ⟨_, rfl⟩
      rw [← hn1, ← hn2] at HX HMV
      clear hx hmv HM HM1 hn1 hn2
      obtain ⟨c0, c1⟩ := HX.out.two
      obtain ⟨p0, p1⟩ := HXA.out.two
      have z0 := HXA.out.frozen 0
      have z1 := HXA.out.frozen 1
      have hlt0 := HXA.out.lt
      have hlt1 := HX.out.lt
      go_wp2_with fail
      refine bodyPost_ret (res_map rfl _ _ w.heap.size rfl ((HXA.out.set _).set _)) rfl ?_
      have hsame : Below w.heap.size w wr := HB0.out.trans ⟨HT.out.os, HT.out.tape, HT.out.output, HT.out.size, fun i hi => HT.out.block i (by omega) (by omega)⟩
      refine ⟨_, _, rfl, ⟨?_, ?_, HMV.out.apart⟩, (hsame.setCell (by simp) _).setCell (by simp) _⟩
      · exact ((HMV.out.keys.set_other (p := ⟨w.heap.size, 0, none⟩) (by show w.heap.size < _; omega) _).set_other (p := ⟨w.heap.size, 1, none⟩) (by show w.heap.size < _; omega) _).mono (by omega)
      · exact ((HMV.out.vals.set_other (p := ⟨w.heap.size, 0, none⟩) (by show w.heap.size < _; omega) _).set_other (p := ⟨w.heap.size, 1, none⟩) (by show w.heap.size < _; omega) _).mono (by omega)
end Go.Proofs.Ytmdhihgfnlnbnaa
