/-
  Texts of this proof, put together: IterG, IterH, IterJ.
-/
import Derived.Test.YtphfakdbgohhgaaPackAO
import Derived.Test.YtphfakdbgohhgaaPackAX
import Derived.Deep.QuietTactic
import Derived.BigQuiet

/-
  Contract of spec.l14Go.
-/
namespace Go.Proofs.Ytphfakdbgohhgaa
open Go.ChangeShapes Go.WideShapes Go.ChangeAt Go.RowKit

theorem three_boxV {w w1 : World} {T U X : TypeId} {A B C : Array Value} (h : Below (((w.alloc (.cells A T)).alloc (.cells B U)).alloc (.cells C X)).heap.size (((w.alloc (.cells A T)).alloc (.cells B U)).alloc (.cells C X)) w1) :
    BoxV T w1 w.heap.size A ∧ BoxV U w1 (w.heap.size + 1) B ∧ BoxV X w1 (w.heap.size + 1 + 1) C ∧ Below w.heap.size w w1 ∧ w.heap.size + 1 + 1 + 1 ≤ w1.heap.size := by
  obtain ⟨h1, h2, h3⟩ := two_boxV (w := w.alloc (.cells A T)) h
  rw [Go.Deep.nblk_alloc] at h1 h2 h3
  refine ⟨((BoxV.new T w A).below h3 (by simp)), h1, h2, ((Below.refl _ w).alloc (Nat.le_refl _) _).trans (h3.mono (by omega)), ?_⟩
  have := h.size
  simp only [Go.Deep.nblk_alloc] at this
  exact this
theorem boxR {T : TypeId} {w : World} {g : Nat} {vs : Array Value} (h : BoxV T w g vs) (r : Nat) : BoxV T (w.drewN r) g vs := h
theorem ownR {α : Type} {e : El α} {B : Nat} {w : World} {v : Value} {L : List α} (h : e.Owns B w v L) (r : Nat) : e.Owns B (w.drewN r) v L := h
theorem belR {B : Nat} {w w' : World} (h : Below B w w') (r : Nat) : Below B w (w'.drewN r) := ⟨h.os, h.tape, h.output, h.size, h.block⟩
/-- the answer's two boxes are written, in whatever order; the place stands in the iterator's box -/
theorem mov_sets {B s8 s9 : Nat} {w W : World} {v0 v1 v2 v3 u0 u1 x0 x1 x2 x3 y0 y1 : Value} {vl : Value} {M : List KV} {B' : Nat} (h8 : BoxV 56 W s8 #[x0, x1, x2, x3]) (h9 : BoxV 41 W s9 #[y0, y1]) (hne : s8 ≠ s9) (hb : Below B w W) (hs8 : B ≤ s8) (hs9 : B ≤ s9) (ho : elKV.Owns B' W vl M) (hB8 : s8 < B') (hB9 : s9 < B') :
    (BoxV 56 ((((((W.setCell ⟨s8, 0, none⟩ v0).setCell ⟨s8, 1, none⟩ v1).setCell ⟨s8, 2, none⟩ v2).setCell ⟨s8, 3, none⟩ v3).setCell ⟨s9, 0, none⟩ u0).setCell ⟨s9, 1, none⟩ u1) s8 #[v0, v1, v2, v3] ∧
     BoxV 41 ((((((W.setCell ⟨s8, 0, none⟩ v0).setCell ⟨s8, 1, none⟩ v1).setCell ⟨s8, 2, none⟩ v2).setCell ⟨s8, 3, none⟩ v3).setCell ⟨s9, 0, none⟩ u0).setCell ⟨s9, 1, none⟩ u1) s9 #[u0, u1] ∧
     Below B w ((((((W.setCell ⟨s8, 0, none⟩ v0).setCell ⟨s8, 1, none⟩ v1).setCell ⟨s8, 2, none⟩ v2).setCell ⟨s8, 3, none⟩ v3).setCell ⟨s9, 0, none⟩ u0).setCell ⟨s9, 1, none⟩ u1) ∧
     elKV.Owns B' ((((((W.setCell ⟨s8, 0, none⟩ v0).setCell ⟨s8, 1, none⟩ v1).setCell ⟨s8, 2, none⟩ v2).setCell ⟨s8, 3, none⟩ v3).setCell ⟨s9, 0, none⟩ u0).setCell ⟨s9, 1, none⟩ u1) vl M) ∧
    (BoxV 56 ((((((W.setCell ⟨s9, 0, none⟩ u0).setCell ⟨s9, 1, none⟩ u1).setCell ⟨s8, 0, none⟩ v0).setCell ⟨s8, 1, none⟩ v1).setCell ⟨s8, 2, none⟩ v2).setCell ⟨s8, 3, none⟩ v3) s8 #[v0, v1, v2, v3] ∧
     BoxV 41 ((((((W.setCell ⟨s9, 0, none⟩ u0).setCell ⟨s9, 1, none⟩ u1).setCell ⟨s8, 0, none⟩ v0).setCell ⟨s8, 1, none⟩ v1).setCell ⟨s8, 2, none⟩ v2).setCell ⟨s8, 3, none⟩ v3) s9 #[u0, u1] ∧
     Below B w ((((((W.setCell ⟨s9, 0, none⟩ u0).setCell ⟨s9, 1, none⟩ u1).setCell ⟨s8, 0, none⟩ v0).setCell ⟨s8, 1, none⟩ v1).setCell ⟨s8, 2, none⟩ v2).setCell ⟨s8, 3, none⟩ v3) ∧
     elKV.Owns B' ((((((W.setCell ⟨s9, 0, none⟩ u0).setCell ⟨s9, 1, none⟩ u1).setCell ⟨s8, 0, none⟩ v0).setCell ⟨s8, 1, none⟩ v1).setCell ⟨s8, 2, none⟩ v2).setCell ⟨s8, 3, none⟩ v3) vl M) := by
  have n1 : s9 ≠ s8 := fun e => hne e.symm
  refine ⟨⟨?_, ?_, ?_, ?_⟩, ⟨?_, ?_, ?_, ?_⟩⟩
  · exact ((h8.all4 _ _ _ _).set_other n1 _).set_other n1 _
  · exact BoxV.two1 (BoxV.two0 ((((h9.set_other hne _).set_other hne _).set_other hne _).set_other hne _) _) _
  · exact ((below_four hb hs8 _ _ _ _).setCell hs9 _).setCell hs9 _
  · exact (((((ho.set_other hB8 _).set_other hB8 _).set_other hB8 _).set_other hB8 _).set_other hB9 _).set_other hB9 _
  · exact ((h8.set_other n1 _).set_other n1 _).all4 _ _ _ _
  · exact ((((BoxV.two1 (BoxV.two0 h9 _) _).set_other hne _).set_other hne _).set_other hne _).set_other hne _
  · exact below_four ((hb.setCell hs9 _).setCell hs9 _) hs8 _ _ _ _
  · exact (((((ho.set_other hB9 _).set_other hB9 _).set_other hB8 _).set_other hB8 _).set_other hB8 _).set_other hB8 _

/-- the walked iterator in its box (block s), its list in a row of its own -/
def GoK (s : Nat) (v0 v1 v2 v3 vl : Value) (L : List KV) (W : World) : Prop := BoxV 56 W s #[v0, v1, v2, v3] ∧ elKV.Owns (s + 1 + 1 + 1) W vl L
section
variable {s gb n c j : Nat} {v0 v1 v2 v3 vl : Value} {L : List KV} {W : World} {f0 f1 : ByteArray}
theorem GoK.s8 (h : GoK s v0 v1 v2 v3 vl L W) (u0 u1 u2 u3 : Value) : GoK s v0 v1 v2 v3 vl L ((((W.setCell ⟨s + 1, 0, none⟩ u0).setCell ⟨s + 1, 1, none⟩ u1).setCell ⟨s + 1, 2, none⟩ u2).setCell ⟨s + 1, 3, none⟩ u3) :=
  ⟨(((h.1.set_other (by simp) _).set_other (by simp) _).set_other (by simp) _).set_other (by simp) _, (((h.2.set_other (by simp) _).set_other (by simp) _).set_other (by simp) _).set_other (by simp) _⟩
theorem GoK.s9 (h : GoK s v0 v1 v2 v3 vl L W) (u0 u1 : Value) : GoK s v0 v1 v2 v3 vl L ((W.setCell ⟨s + 1 + 1, 0, none⟩ u0).setCell ⟨s + 1 + 1, 1, none⟩ u1) :=
  ⟨(h.1.set_other (by simp; omega) _).set_other (by simp; omega) _, (h.2.set_other (by simp) _).set_other (by simp) _⟩
theorem GoK.sel (h : GoK s v0 v1 v2 v3 (.slice (some ⟨gb, 0, none⟩) n c) L W) (hn : L.length = n) (hq : L[j]? = some (f0, f1)) :
    (W.drew.cell? ⟨s, 0, none⟩ = some v0 ∧ W.drew.cell? ⟨s, 1, none⟩ = some v1 ∧ W.drew.cell? ⟨s, 2, none⟩ = some v2 ∧ W.drew.cell? ⟨s, 3, none⟩ = some v3) ∧ (W.drew.cell? ⟨gb, j * 2, none⟩ = some (.string f0) ∧ W.drew.cell? ⟨gb, j * 2 + 1, none⟩ = some (.string f1)) :=
  ⟨h.1.drew.four', cellsXKV (o := j * 2) (h.2.drew.cellsAt hn j _ hq)⟩
end
set_option maxHeartbeats 4000000 in
set_option maxRecDepth 20000 in
theorem goUp_any (B : Nat) (a : Option Addr) (cap : Nat) (L : List KV) (f t : ByteArray) (i : Int) (p : Nat) (g : ByteArray) (w : World) (hO : elKV.Owns B w (.slice a L.length cap) L) (hl : L.length ≤ 2097152) (hp : p ≤ L.length + 1) :
    Calls Try.prog 78 #[itV (.slice a L.length cap) (L, f, t, i), .int .i64 (p : Int), .int .i64 1, .string g] w (MovPost w (goV (L, f, t, i) (upI (L, f, t, i) g p : Nat))) := by
  have HO := hide hO
  have HCP := hide (fun W (h : elKV.Owns B W (.slice a L.length cap) L) => sCopy_any B a cap (L, f, t, i) W h hl)
  unfold ItPost itV at HCP
  dsimp only at HCP
  obtain ⟨n, hn⟩ : ∃ n, n = L.length := ⟨_, rfl⟩
  have HN := hide hn.symm
  obtain ⟨F, hF⟩ : ∃ F, F = upI (L, f, t, i) g p := ⟨_, rfl⟩
  have HF := hide hF.symm
  rw [← hF]
  rw [← hn] at hl hp HO HCP ⊢
  clear hO hn hF
  go_enter Try.func78, Try.ntmps78
  go_wp2_with fail
  refine (HCP.out _ (((HO.out.alloc _).alloc _).alloc _)).mono ?_
  rintro e w1 ⟨v, rfl, ho1, hb1⟩
  obtain ⟨a1, c1, rfl, _⟩ := ho1.form
  rw [HN.out] at ho1 ⊢
  simp only [Go.Deep.nblk_alloc] at ho1
  obtain ⟨k1, k2, k3, k4, k5⟩ := three_boxV hb1
  have z0 := k1.frozen 0
  have z1 := k1.frozen 1
  have z2 := k1.frozen 2
  have z3 := k1.frozen 3
  obtain ⟨c0', c1', c2', c3'⟩ := k1.four'
  have hl1 := k1.lt
  have HX := hide (k1.all4 (.slice a1 n c1) (.string f) (.string t) (.int .i64 i))
  have HY := hide ((((k2.set_other (p := ⟨w.heap.size, 0, none⟩) (by simp) (.slice a1 n c1)).set_other (p := ⟨w.heap.size, 1, none⟩) (by simp) (.string f)).set_other (p := ⟨w.heap.size, 2, none⟩) (by simp) (.string t)).set_other (p := ⟨w.heap.size, 3, none⟩) (by simp) (.int .i64 i))
  have HZ := hide ((((k3.set_other (p := ⟨w.heap.size, 0, none⟩) (by show w.heap.size ≠ _; omega) (.slice a1 n c1)).set_other (p := ⟨w.heap.size, 1, none⟩) (by show w.heap.size ≠ _; omega) (.string f)).set_other (p := ⟨w.heap.size, 2, none⟩) (by show w.heap.size ≠ _; omega) (.string t)).set_other (p := ⟨w.heap.size, 3, none⟩) (by show w.heap.size ≠ _; omega) (.int .i64 i))
  have HW := hide (below_four k4 (Nat.le_refl _) (.slice a1 n c1) (.string f) (.string t) (.int .i64 i))
  have HL := hide ((((ho1.set_other (p := ⟨w.heap.size, 0, none⟩) (by simp; omega) (.slice a1 n c1)).set_other (p := ⟨w.heap.size, 1, none⟩) (by simp; omega) (.string f)).set_other (p := ⟨w.heap.size, 2, none⟩) (by simp; omega) (.string t)).set_other (p := ⟨w.heap.size, 3, none⟩) (by simp; omega) (.int .i64 i))
  clear k1 k2 k3 k4 ho1 hb1 HCP HO
  go_wp2_with fail
  clear c0' c1' c2' c3' z0 z1 z2 z3 hl1 k5
  go_loopw [11] (fun q wr => ∃ j : Nat, q = .int .i64 (j : Int) ∧ j ≤ n + 1 ∧ Hid (upI (L, f, t, i) g j = F) ∧ Hid (BoxV 56 wr w.heap.size #[.slice a1 n c1, .string f, .string t, .int .i64 i]) ∧ Hid (BoxV 56 wr (w.heap.size + 1) #[.slice none 0 0, .string ⟨#[]⟩, .string ⟨#[]⟩, .int .i64 0]) ∧ Hid (BoxV 41 wr (w.heap.size + 1 + 1) #[.string ⟨#[]⟩, .string ⟨#[]⟩]) ∧ Hid (elKV.Owns (w.heap.size + 1 + 1 + 1) wr (.slice a1 n c1) L) ∧ Hid (Below w.heap.size w wr)) (fun q _ => n + 2 - (intOf q).toNat)
  case atStart => exact ⟨p, rfl, hp, HF, HX, HY, HZ, HL, HW⟩
  case round =>
    clear HX HY HZ HL HW
    obtain ⟨j, rfl, hj, HJ, HX, HY, HZ, HL, HW⟩ := hrel
    obtain ⟨c0, c1', c2, c3⟩ := HX.out.four'
    have hl1 := HX.out.lt
    by_cases hlt : j < n
    · obtain ⟨gb, rfl, hgb, hgz⟩ := HL.out.pos (by rw [HN.out]; omega)
      have hjL : j < L.length := by rw [HN.out]; exact hlt
      obtain ⟨f0, f1, hx⟩ := partsKV L[j]
      have HQ := hide (show L[j]? = some (f0, f1) by rw [List.getElem?_eq_getElem hjL, hx])
      have HGV := hide (goV_yes (x := (L, f, t, i)) (j := j) hjL)
      have hUY := upI_yes (x := (L, f, t, i)) (g := g) (i := j) hjL
      have hUN := upI_no (x := (L, f, t, i)) (g := g) (i := j) hjL
      dsimp only at HGV hUY hUN
      rw [hx] at HGV hUY hUN
      dsimp only at HGV hUY hUN
      obtain ⟨d0, d1⟩ := cellsXKV (o := j * 2) (HL.out.cellsAt HN.out j _ HQ.out)
      have HWI := fun W => l9Within_any f0 f t W
      by_cases hw : withinK f0 f t
      · rw [decide_eq_true hw] at HWI
        cases hk : kless f0 g with
        | false =>
          have z1 := kless_of' false hk
          have HFJ := hide (show F = j from HJ.out.symm.trans (hUY hw hk))
          clear hUY hUN hw hk hx hjL
          go_wp2_with fail
          go_quiet ((go_at_call 68; exact Calls.quiet_of_same (HWI _)))
          have y3 := HX.out.frozen 3
          go_wp2_with fail
          have HX6 := hide (fun r => (boxR HX.out r).four3 (.int .i64 (j : Int)))
          have HY6 := hide (fun r => (boxR HY.out r).set_other (p := ⟨w.heap.size, 3, none⟩) (by simp) (.int .i64 (j : Int)))
          have HZ6 := hide (fun r => (boxR HZ.out r).set_other (p := ⟨w.heap.size, 3, none⟩) (by show w.heap.size ≠ _; omega) (.int .i64 (j : Int)))
          have HL6 := hide (fun r => (ownR HL.out r).set_other (p := ⟨w.heap.size, 3, none⟩) (by simp; omega) (.int .i64 (j : Int)))
          have HW6 := hide (fun r => (belR HW.out r).setCell (p := ⟨w.heap.size, 3, none⟩) (Nat.le_refl _) (.int .i64 (j : Int)))
          have HD6 := hide (fun r => cellsXKV (o := j * 2) ((HL6.out r).cellsAt HN.out j _ HQ.out))
          have hne1 : gb ≠ w.heap.size + 1 := by omega
          have hne2 : gb ≠ w.heap.size + 1 + 1 := by omega
          have hl7 : ∀ r, w.heap.size + 1 < ((wr.drewN r).setCell ⟨w.heap.size, 3, none⟩ (.int .i64 (j : Int))).heap.size := fun r => (HY6.out r).lt
          have hl8 : ∀ r, w.heap.size + 1 + 1 < ((wr.drewN r).setCell ⟨w.heap.size, 3, none⟩ (.int .i64 (j : Int))).heap.size := fun r => (HZ6.out r).lt
          clear HX HY HZ HL HW c0 c1' c2 c3 d0 d1 y3 hl1
          generalize hW6 : World.setCell (World.drewN wr _) ⟨w.heap.size, 3, none⟩ (.int .i64 (j : Int)) = W6
          have HXs := hide (show BoxV 56 W6 _ _ from hW6 ▸ HX6.out _)
          have HYs := hide (show BoxV 56 W6 _ _ from hW6 ▸ HY6.out _)
          have HZs := hide (show BoxV 41 W6 _ _ from hW6 ▸ HZ6.out _)
          have HLs := hide (show elKV.Owns _ W6 _ _ from hW6 ▸ HL6.out _)
          have HWs := hide (show Below _ w W6 from hW6 ▸ HW6.out _)
          have HKs := hide (show GoK w.heap.size _ _ _ _ _ L W6 from ⟨HXs.out, HLs.out⟩)
          clear hW6 HX6 HY6 HZ6 HL6 HW6 HD6 hl7 hl8
          obtain ⟨e0, e1, e2, e3⟩ := HYs.out.four'
          have x0 := HYs.out.frozen 0
          have x1 := HYs.out.frozen 1
          have x2 := HYs.out.frozen 2
          have x3 := HYs.out.frozen 3
          obtain ⟨u0, u1⟩ := HZs.out.two'
          have v0 := HZs.out.frozen 0
          have v1 := HZs.out.frozen 1
          have hl2 := HYs.out.lt
          have hl3 := HZs.out.lt
          go_region_held3 (fun w' => (w'.cell? ⟨w.heap.size, 0, none⟩ = some (.slice (some ⟨gb, 0, none⟩) n c1) ∧ w'.cell? ⟨w.heap.size, 1, none⟩ = some (.string f) ∧ w'.cell? ⟨w.heap.size, 2, none⟩ = some (.string t) ∧ w'.cell? ⟨w.heap.size, 3, none⟩ = some (.int .i64 (j : Int))) ∧
              (w'.cell? ⟨gb, j * 2, none⟩ = some (.string f0) ∧ w'.cell? ⟨gb, j * 2 + 1, none⟩ = some (.string f1)))
            (first
              | with_reducible exact HKs.out.sel HN.out HQ.out
              | with_reducible exact (HKs.out.s8 _ _ _ _).sel HN.out HQ.out
              | with_reducible exact (HKs.out.s9 _ _).sel HN.out HQ.out
              | with_reducible exact ((HKs.out.s8 _ _ _ _).s9 _ _).sel HN.out HQ.out
              | with_reducible exact ((HKs.out.s9 _ _).s8 _ _ _ _).sel HN.out HQ.out) (fail)
          all_goals (
            go_wp2_with fail
            rw [HFJ.out, HGV.out]
            obtain ⟨⟨m1, m2, m3, m4⟩, ⟨m5, m6, m7, m8⟩⟩ := mov_sets (v0 := .slice (some ⟨gb, 0, none⟩) n c1) (v1 := .string f) (v2 := .string t) (v3 := .int .i64 (j : Int)) (u0 := .string f0) (u1 := .string f1) HYs.out HZs.out (by omega) HWs.out (by omega) (by omega) HLs.out (by omega) (by omega)
            first
              | exact bodyPost_ret (res_mov rfl _ _ (w.heap.size + 1) (w.heap.size + 1 + 1) rfl rfl m1.drew m2.drew) rfl ⟨_, by simp, El.Owns.mono m4.drew (by omega), m3.drew⟩
              | exact bodyPost_ret (res_mov rfl _ _ (w.heap.size + 1) (w.heap.size + 1 + 1) rfl rfl m5.drew m6.drew) rfl ⟨_, by simp, El.Owns.mono m8.drew (by omega), m7.drew⟩
              | trace_state)
        | true =>
          have z1 := kless_of' true hk
          have HU := hide (show upI (L, f, t, i) g (j + 1) = F from (hUN (fun h => by rw [hk] at h; cases h.2)).symm.trans HJ.out)
          clear hUY hUN hw hk hx hjL
          go_wp2_with fail
          go_quiet ((go_at_call 68; exact Calls.quiet_of_same (HWI _)))
          go_wp2_with fail
          go_roundw
          case rel => exact ⟨j + 1, by go_num, by omega, HU, boxR HX.out _, boxR HY.out _, boxR HZ.out _, ownR HL.out _, belR HW.out _⟩
          case measure => simp [intOf]; omega
      · rw [decide_eq_false hw] at HWI
        have HU := hide (show upI (L, f, t, i) g (j + 1) = F from (hUN (fun h => hw h.1)).symm.trans HJ.out)
        clear hUY hUN hw hx hjL
        go_wp2_with fail
        go_quiet ((go_at_call 68; exact Calls.quiet_of_same (HWI _)))
        go_wp2_with fail
        go_roundw
        case rel => exact ⟨j + 1, by go_num, by omega, HU, boxR HX.out _, boxR HY.out _, boxR HZ.out _, ownR HL.out _, belR HW.out _⟩
        case measure => simp [intOf]; omega
    · have HFN := hide (show F = n from HJ.out.symm.trans ((upI_end (x := (L, f, t, i)) (g := g) (show L.length ≤ j by rw [HN.out]; omega)).trans HN.out))
      have HGV := hide (goV_end (L, f, t, i))
      dsimp only at HGV
      rw [HN.out] at HGV
      have y3 := HX.out.frozen 3
      obtain ⟨e0, e1, e2, e3⟩ := HY.out.four'
      have x0 := HY.out.frozen 0
      have x1 := HY.out.frozen 1
      have x2 := HY.out.frozen 2
      have x3 := HY.out.frozen 3
      obtain ⟨u0, u1⟩ := HZ.out.two'
      have v0 := HZ.out.frozen 0
      have v1 := HZ.out.frozen 1
      have hl2 := HY.out.lt
      have hl3 := HZ.out.lt
      go_wp2_with fail
      rw [HFN.out, HGV.out]
      obtain ⟨⟨m1, m2, m3, m4⟩, _⟩ := mov_sets (v0 := .slice a1 n c1) (v1 := .string f) (v2 := .string t) (v3 := .int .i64 (n : Int)) (u0 := .string ⟨#[]⟩) (u1 := .string ⟨#[]⟩) ((HY.out.set_other (p := ⟨w.heap.size, 3, none⟩) (by simp) (.int .i64 (-1))).set_other (p := ⟨w.heap.size, 3, none⟩) (by simp) (.int .i64 (n : Int))) ((HZ.out.set_other (p := ⟨w.heap.size, 3, none⟩) (by show w.heap.size ≠ _; omega) (.int .i64 (-1))).set_other (p := ⟨w.heap.size, 3, none⟩) (by show w.heap.size ≠ _; omega) (.int .i64 (n : Int))) (by omega) ((HW.out.setCell (p := ⟨w.heap.size, 3, none⟩) (Nat.le_refl _) (.int .i64 (-1))).setCell (p := ⟨w.heap.size, 3, none⟩) (Nat.le_refl _) (.int .i64 (n : Int))) (by omega) (by omega) ((HL.out.set_other (p := ⟨w.heap.size, 3, none⟩) (by simp; omega) (.int .i64 (-1))).set_other (p := ⟨w.heap.size, 3, none⟩) (by simp; omega) (.int .i64 (n : Int))) (by omega) (by omega)
      exact bodyPost_ret (res_mov rfl _ _ (w.heap.size + 1) (w.heap.size + 1 + 1) rfl rfl m1 m2) rfl ⟨_, by simp, El.Owns.mono m4 (by omega), m3⟩

set_option maxHeartbeats 4000000 in
set_option maxRecDepth 20000 in
theorem goDn_any (B : Nat) (a : Option Addr) (cap : Nat) (L : List KV) (f t : ByteArray) (i : Int) (p : Int) (w : World) (hO : elKV.Owns B w (.slice a L.length cap) L) (hl : L.length ≤ 2097152) (hp0 : -2 ≤ p) (hp : p < (L.length : Int)) :
    Calls Try.prog 78 #[itV (.slice a L.length cap) (L, f, t, i), .int .i64 p, .int .i64 (-1), .string ⟨#[]⟩] w (MovPost w (goV (L, f, t, i) (dnI (L, f, t, i) (p + 1).toNat))) := by
  have HO := hide hO
  have HCP := hide (fun W (h : elKV.Owns B W (.slice a L.length cap) L) => sCopy_any B a cap (L, f, t, i) W h hl)
  unfold ItPost itV at HCP
  dsimp only at HCP
  obtain ⟨n, hn⟩ : ∃ n, n = L.length := ⟨_, rfl⟩
  have HN := hide hn.symm
  obtain ⟨F, hF⟩ : ∃ F, F = dnI (L, f, t, i) (p + 1).toNat := ⟨_, rfl⟩
  have HF := hide hF.symm
  rw [← hF]
  rw [← hn] at hl hp HO HCP ⊢
  clear hO hn hF
  go_enter Try.func78, Try.ntmps78
  go_wp2_with fail
  refine (HCP.out _ (((HO.out.alloc _).alloc _).alloc _)).mono ?_
  rintro e w1 ⟨v, rfl, ho1, hb1⟩
  obtain ⟨a1, c1, rfl, _⟩ := ho1.form
  rw [HN.out] at ho1 ⊢
  simp only [Go.Deep.nblk_alloc] at ho1
  obtain ⟨k1, k2, k3, k4, k5⟩ := three_boxV hb1
  have z0 := k1.frozen 0
  have z1 := k1.frozen 1
  have z2 := k1.frozen 2
  have z3 := k1.frozen 3
  obtain ⟨c0', c1', c2', c3'⟩ := k1.four'
  have hl1 := k1.lt
  have HX := hide (k1.all4 (.slice a1 n c1) (.string f) (.string t) (.int .i64 i))
  have HY := hide ((((k2.set_other (p := ⟨w.heap.size, 0, none⟩) (by simp) (.slice a1 n c1)).set_other (p := ⟨w.heap.size, 1, none⟩) (by simp) (.string f)).set_other (p := ⟨w.heap.size, 2, none⟩) (by simp) (.string t)).set_other (p := ⟨w.heap.size, 3, none⟩) (by simp) (.int .i64 i))
  have HZ := hide ((((k3.set_other (p := ⟨w.heap.size, 0, none⟩) (by show w.heap.size ≠ _; omega) (.slice a1 n c1)).set_other (p := ⟨w.heap.size, 1, none⟩) (by show w.heap.size ≠ _; omega) (.string f)).set_other (p := ⟨w.heap.size, 2, none⟩) (by show w.heap.size ≠ _; omega) (.string t)).set_other (p := ⟨w.heap.size, 3, none⟩) (by show w.heap.size ≠ _; omega) (.int .i64 i))
  have HW := hide (below_four k4 (Nat.le_refl _) (.slice a1 n c1) (.string f) (.string t) (.int .i64 i))
  have HL := hide ((((ho1.set_other (p := ⟨w.heap.size, 0, none⟩) (by simp; omega) (.slice a1 n c1)).set_other (p := ⟨w.heap.size, 1, none⟩) (by simp; omega) (.string f)).set_other (p := ⟨w.heap.size, 2, none⟩) (by simp; omega) (.string t)).set_other (p := ⟨w.heap.size, 3, none⟩) (by simp; omega) (.int .i64 i))
  clear k1 k2 k3 k4 ho1 hb1 HCP HO
  go_wp2_with fail
  clear c0' c1' c2' c3' z0 z1 z2 z3 hl1 k5
  go_loopw [11] (fun q wr => ∃ z : Int, q = .int .i64 z ∧ -2 ≤ z ∧ z < (n : Int) ∧ Hid (dnI (L, f, t, i) (z + 1).toNat = F) ∧ Hid (BoxV 56 wr w.heap.size #[.slice a1 n c1, .string f, .string t, .int .i64 i]) ∧ Hid (BoxV 56 wr (w.heap.size + 1) #[.slice none 0 0, .string ⟨#[]⟩, .string ⟨#[]⟩, .int .i64 0]) ∧ Hid (BoxV 41 wr (w.heap.size + 1 + 1) #[.string ⟨#[]⟩, .string ⟨#[]⟩]) ∧ Hid (elKV.Owns (w.heap.size + 1 + 1 + 1) wr (.slice a1 n c1) L) ∧ Hid (Below w.heap.size w wr)) (fun q _ => (intOf q + 2).toNat)
  case atStart => exact ⟨p, rfl, hp0, hp, HF, HX, HY, HZ, HL, HW⟩
  case round =>
    clear HX HY HZ HL HW
    obtain ⟨z, rfl, hz0, hz1, HJ, HX, HY, HZ, HL, HW⟩ := hrel
    obtain ⟨c0, c1', c2, c3⟩ := HX.out.four'
    have hl1 := HX.out.lt
    by_cases hlt : 0 ≤ z
    · obtain ⟨j, rfl⟩ : ∃ j : Nat, z = (j : Int) := ⟨z.toNat, by omega⟩
      have hjn : j < n := by omega
      have HJ2 := hide (show dnI (L, f, t, i) (j + 1) = F from HJ.out)
      obtain ⟨gb, rfl, hgb, hgz⟩ := HL.out.pos (by rw [HN.out]; omega)
      have hjL : j < L.length := by rw [HN.out]; exact hjn
      obtain ⟨f0, f1, hx⟩ := partsKV L[j]
      have HQ := hide (show L[j]? = some (f0, f1) by rw [List.getElem?_eq_getElem hjL, hx])
      have HGV := hide (goV_yes (x := (L, f, t, i)) (j := j) hjL)
      have hUY := dnI_yes (x := (L, f, t, i)) (n := j) hjL
      have hUN := dnI_no (x := (L, f, t, i)) (n := j) hjL
      dsimp only at HGV hUY hUN
      rw [hx] at HGV hUY hUN
      dsimp only at HGV hUY hUN
      obtain ⟨d0, d1⟩ := cellsXKV (o := j * 2) (HL.out.cellsAt HN.out j _ HQ.out)
      have HWI := fun W => l9Within_any f0 f t W
      by_cases hw : withinK f0 f t
      · rw [decide_eq_true hw] at HWI
        have hk := kless_empty f0
        (
          have z1 : Op.bytesLess f0.toList [] = false := by cases f0.toList <;> rfl
          have HFJ := hide (show F = (j : Int) from HJ2.out.symm.trans (hUY hw))
          clear hUY hUN hw hk hx hjL
          go_wp2_with fail
          go_quiet ((go_at_call 68; exact Calls.quiet_of_same (HWI _)))
          have y3 := HX.out.frozen 3
          go_wp2_with fail
          have HX6 := hide (fun r => (boxR HX.out r).four3 (.int .i64 (j : Int)))
          have HY6 := hide (fun r => (boxR HY.out r).set_other (p := ⟨w.heap.size, 3, none⟩) (by simp) (.int .i64 (j : Int)))
          have HZ6 := hide (fun r => (boxR HZ.out r).set_other (p := ⟨w.heap.size, 3, none⟩) (by show w.heap.size ≠ _; omega) (.int .i64 (j : Int)))
          have HL6 := hide (fun r => (ownR HL.out r).set_other (p := ⟨w.heap.size, 3, none⟩) (by simp; omega) (.int .i64 (j : Int)))
          have HW6 := hide (fun r => (belR HW.out r).setCell (p := ⟨w.heap.size, 3, none⟩) (Nat.le_refl _) (.int .i64 (j : Int)))
          have HD6 := hide (fun r => cellsXKV (o := j * 2) ((HL6.out r).cellsAt HN.out j _ HQ.out))
          have hne1 : gb ≠ w.heap.size + 1 := by omega
          have hne2 : gb ≠ w.heap.size + 1 + 1 := by omega
          have hl7 : ∀ r, w.heap.size + 1 < ((wr.drewN r).setCell ⟨w.heap.size, 3, none⟩ (.int .i64 (j : Int))).heap.size := fun r => (HY6.out r).lt
          have hl8 : ∀ r, w.heap.size + 1 + 1 < ((wr.drewN r).setCell ⟨w.heap.size, 3, none⟩ (.int .i64 (j : Int))).heap.size := fun r => (HZ6.out r).lt
          clear HX HY HZ HL HW c0 c1' c2 c3 d0 d1 y3 hl1
          generalize hW6 : World.setCell (World.drewN wr _) ⟨w.heap.size, 3, none⟩ (.int .i64 (j : Int)) = W6
          have HXs := hide (show BoxV 56 W6 _ _ from hW6 ▸ HX6.out _)
          have HYs := hide (show BoxV 56 W6 _ _ from hW6 ▸ HY6.out _)
          have HZs := hide (show BoxV 41 W6 _ _ from hW6 ▸ HZ6.out _)
          have HLs := hide (show elKV.Owns _ W6 _ _ from hW6 ▸ HL6.out _)
          have HWs := hide (show Below _ w W6 from hW6 ▸ HW6.out _)
          have HKs := hide (show GoK w.heap.size _ _ _ _ _ L W6 from ⟨HXs.out, HLs.out⟩)
          clear hW6 HX6 HY6 HZ6 HL6 HW6 HD6 hl7 hl8
          obtain ⟨e0, e1, e2, e3⟩ := HYs.out.four'
          have x0 := HYs.out.frozen 0
          have x1 := HYs.out.frozen 1
          have x2 := HYs.out.frozen 2
          have x3 := HYs.out.frozen 3
          obtain ⟨u0, u1⟩ := HZs.out.two'
          have v0 := HZs.out.frozen 0
          have v1 := HZs.out.frozen 1
          have hl2 := HYs.out.lt
          have hl3 := HZs.out.lt
          go_region_held3 (fun w' => (w'.cell? ⟨w.heap.size, 0, none⟩ = some (.slice (some ⟨gb, 0, none⟩) n c1) ∧ w'.cell? ⟨w.heap.size, 1, none⟩ = some (.string f) ∧ w'.cell? ⟨w.heap.size, 2, none⟩ = some (.string t) ∧ w'.cell? ⟨w.heap.size, 3, none⟩ = some (.int .i64 (j : Int))) ∧
              (w'.cell? ⟨gb, j * 2, none⟩ = some (.string f0) ∧ w'.cell? ⟨gb, j * 2 + 1, none⟩ = some (.string f1)))
            (first
              | with_reducible exact HKs.out.sel HN.out HQ.out
              | with_reducible exact (HKs.out.s8 _ _ _ _).sel HN.out HQ.out
              | with_reducible exact (HKs.out.s9 _ _).sel HN.out HQ.out
              | with_reducible exact ((HKs.out.s8 _ _ _ _).s9 _ _).sel HN.out HQ.out
              | with_reducible exact ((HKs.out.s9 _ _).s8 _ _ _ _).sel HN.out HQ.out) (fail)
          all_goals (
            go_wp2_with fail
            rw [HFJ.out, HGV.out]
            obtain ⟨⟨m1, m2, m3, m4⟩, ⟨m5, m6, m7, m8⟩⟩ := mov_sets (v0 := .slice (some ⟨gb, 0, none⟩) n c1) (v1 := .string f) (v2 := .string t) (v3 := .int .i64 (j : Int)) (u0 := .string f0) (u1 := .string f1) HYs.out HZs.out (by omega) HWs.out (by omega) (by omega) HLs.out (by omega) (by omega)
            first
              | exact bodyPost_ret (res_mov rfl _ _ (w.heap.size + 1) (w.heap.size + 1 + 1) rfl rfl m1.drew m2.drew) rfl ⟨_, by simp, El.Owns.mono m4.drew (by omega), m3.drew⟩
              | exact bodyPost_ret (res_mov rfl _ _ (w.heap.size + 1) (w.heap.size + 1 + 1) rfl rfl m5.drew m6.drew) rfl ⟨_, by simp, El.Owns.mono m8.drew (by omega), m7.drew⟩
              | trace_state))
      · rw [decide_eq_false hw] at HWI
        have HU := hide (show dnI (L, f, t, i) ((j : Int) - 1 + 1).toNat = F from by
          rw [show ((j : Int) - 1 + 1).toNat = j by omega]
          exact (hUN hw).symm.trans HJ2.out)
        clear hUY hUN hw hx hjL
        go_wp2_with fail
        go_quiet ((go_at_call 68; exact Calls.quiet_of_same (HWI _)))
        go_wp2_with fail
        go_roundw
        case rel => exact ⟨(j : Int) - 1, by go_num, by omega, by omega, HU, boxR HX.out _, boxR HY.out _, boxR HZ.out _, ownR HL.out _, belR HW.out _⟩
        case measure => simp [intOf]; omega
    · have HFN := hide (show F = -1 from by
        have h := HJ.out.symm
        rw [show (z + 1).toNat = 0 by omega] at h
        exact h)
      have HGV := hide (goV_ahead (L, f, t, i))
      dsimp only at HGV
      have y3 := HX.out.frozen 3
      obtain ⟨e0, e1, e2, e3⟩ := HY.out.four'
      have x0 := HY.out.frozen 0
      have x1 := HY.out.frozen 1
      have x2 := HY.out.frozen 2
      have x3 := HY.out.frozen 3
      obtain ⟨u0, u1⟩ := HZ.out.two'
      have v0 := HZ.out.frozen 0
      have v1 := HZ.out.frozen 1
      have hl2 := HY.out.lt
      have hl3 := HZ.out.lt
      go_wp2_with fail
      rw [HFN.out, HGV.out]
      obtain ⟨⟨m1, m2, m3, m4⟩, _⟩ := mov_sets (v0 := .slice a1 n c1) (v1 := .string f) (v2 := .string t) (v3 := .int .i64 (-1)) (u0 := .string ⟨#[]⟩) (u1 := .string ⟨#[]⟩) (HY.out.set_other (p := ⟨w.heap.size, 3, none⟩) (by simp) (.int .i64 (-1))) (HZ.out.set_other (p := ⟨w.heap.size, 3, none⟩) (by show w.heap.size ≠ _; omega) (.int .i64 (-1))) (by omega) (HW.out.setCell (p := ⟨w.heap.size, 3, none⟩) (Nat.le_refl _) (.int .i64 (-1))) (by omega) (by omega) (HL.out.set_other (p := ⟨w.heap.size, 3, none⟩) (by simp; omega) (.int .i64 (-1))) (by omega) (by omega)
      exact bodyPost_ret (res_mov rfl _ _ (w.heap.size + 1) (w.heap.size + 1 + 1) rfl rfl m1 m2) rfl ⟨_, by simp, El.Owns.mono m4 (by omega), m3⟩
end Go.Proofs.Ytphfakdbgohhgaa

/-
  Contract of spec.IterNew.
-/
namespace Go.Proofs.Ytphfakdbgohhgaa
open Go.ChangeShapes Go.WideShapes Go.ChangeAt Go.RowKit

theorem owns_rdK {α : Type} {e : El α} {B n c : Nat} {w : World} {a : Option Addr} {L : List α} (h : e.Owns B w (.slice a n c) L) : e.Rd w w.heap.size a L := by
  obtain ⟨a', c', e1, h1, _⟩ := h.form
  injection e1 with e1 _ _
  rw [e1]
  exact h1
set_option maxHeartbeats 1000000 in
theorem sIterNew_any (B : Nat) (a : Option Addr) (cap : Nat) (L : List KV) (f t : ByteArray) (w : World) (hO : elKV.Owns B w (.slice a L.length cap) L) (hl : L.length ≤ 2097152) :
    Calls Try.prog 37 #[.slice a L.length cap, .string f, .string t] w (NewPost w (newV L f t)) := by
  have HO := hide hO
  have HOK := hide (fun W (h : elKV.Owns B W (.slice a L.length cap) L) => sMapOk_any a cap L W (owns_rdK h) hl)
  have HCP := hide (fun W (h : elKV.Owns B W (.slice a L.length cap) L) => sCopy_any B a cap (L, f, t, -1) W h hl)
  unfold ItPost itV at HCP
  dsimp only at HCP
  obtain ⟨n, hn⟩ : ∃ n, n = L.length := ⟨_, rfl⟩
  have HN := hide hn.symm
  rw [← hn] at hl HO HOK HCP ⊢
  have hal := fun o => (Below.refl w.heap.size w).alloc (Nat.le_refl _) o
  by_cases hk : mapOk L
  · have HV := hide (show newV L f t = ((L, f, t, -1), true) from if_pos hk)
    rw [decide_eq_true hk] at HOK
    clear hO hn hk
    go_enter Try.func37, Try.ntmps37
    go_wp2_with fail
    refine (HOK.out _ (HO.out.alloc _)).mono ?_
    rintro e w1 ⟨rfl, hb1⟩
    have HX1 := hide ((BoxV.new 56 w #[.slice none 0 0, .string ⟨#[]⟩, .string ⟨#[]⟩, .int .i64 0]).below hb1 (by simp))
    have HO1 := hide ((HO.out.alloc _).below hb1 (Nat.le_refl _))
    have HB1 := hide ((hal _).trans (hb1.mono (by simp)))
    clear hb1 hal HO HOK
    go_wp2_with fail
    refine (HCP.out _ HO1.out).mono ?_
    rintro e w2 ⟨v, rfl, ho2, hb2⟩
    obtain ⟨a2, d2, rfl, _⟩ := ho2.form
    have HX2 := hide (HX1.out.below hb2 HX1.out.lt)
    have hl1 := HX1.out.lt
    have HB2 := hide (HB1.out.trans (hb2.mono HB1.out.size))
    have HO2 := hide ho2
    obtain ⟨c0, c1, c2, c3⟩ := HX2.out.four'
    have z0 := HX2.out.frozen 0
    have z1 := HX2.out.frozen 1
    have z2 := HX2.out.frozen 2
    have z3 := HX2.out.frozen 3
    have hl2 := HX2.out.lt
    have hw1 := HB1.out.size
    clear ho2 hb2 HX1 HB1 HO1 HCP
    go_wp2_with fail
    rw [HV.out]
    refine bodyPost_ret (res_itb rfl _ _ w.heap.size rfl (HX2.out.all4 _ _ _ _)) rfl ?_
    exact ⟨_, rfl, El.Owns.mono ((((HO2.out.set_other hl1 _).set_other hl1 _).set_other hl1 _).set_other hl1 _) hw1, below_four HB2.out (Nat.le_refl _) _ _ _ _⟩
  · have HV := hide (show newV L f t = (zeroIt, false) from if_neg hk)
    rw [decide_eq_false hk] at HOK
    clear hO hn hk
    go_enter Try.func37, Try.ntmps37
    go_wp2_with fail
    refine (HOK.out _ (HO.out.alloc _)).mono ?_
    rintro e w1 ⟨rfl, hb1⟩
    have HX2 := hide ((BoxV.new 56 w #[.slice none 0 0, .string ⟨#[]⟩, .string ⟨#[]⟩, .int .i64 0]).below hb1 (by simp))
    have HB2 := hide ((hal _).trans (hb1.mono (by simp)))
    obtain ⟨c0, c1, c2, c3⟩ := HX2.out.four'
    have z0 := HX2.out.frozen 0
    have z1 := HX2.out.frozen 1
    have z2 := HX2.out.frozen 2
    have z3 := HX2.out.frozen 3
    have hl2 := HX2.out.lt
    clear hb1 hal HO HOK
    go_wp2_with fail
    rw [HV.out]
    refine bodyPost_ret (res_itb rfl _ _ w.heap.size rfl (HX2.out.all4 _ _ _ _)) rfl ?_
    exact ⟨_, rfl, El.Owns.nil _ _, below_four HB2.out (Nat.le_refl _) _ _ _ _⟩
/-- an answer that has come: the iterator in block g, the element in the next -/
def MvK (s g : Nat) (v0 v1 v2 v3 u0 u1 : Value) (W : World) : Prop := (BoxV 56 W g #[v0, v1, v2, v3] ∧ BoxV 41 W (g + 1) #[u0, u1]) ∧ s + 1 + 1 < g
section
variable {s g : Nat} {v0 v1 v2 v3 u0 u1 : Value} {W : World}
theorem MvK.new (w : World) (s : Nat) (v0 v1 v2 v3 u0 u1 : Value) (hs : s + 1 + 1 < w.heap.size) : MvK s w.heap.size v0 v1 v2 v3 u0 u1 ((w.alloc (.cells #[v0, v1, v2, v3] 56)).alloc (.cells #[u0, u1] 41)) := by
  obtain ⟨h1, h2, _⟩ := two_boxV (w := w) (T := 56) (U := 41) (A := #[v0, v1, v2, v3]) (B := #[u0, u1]) (Below.refl _ _)
  exact ⟨⟨h1, h2⟩, hs⟩
theorem MvK.s8 (h : MvK s g v0 v1 v2 v3 u0 u1 W) (x0 x1 x2 x3 : Value) : MvK s g v0 v1 v2 v3 u0 u1 ((((W.setCell ⟨s + 1, 0, none⟩ x0).setCell ⟨s + 1, 1, none⟩ x1).setCell ⟨s + 1, 2, none⟩ x2).setCell ⟨s + 1, 3, none⟩ x3) := by
  have h1 := h.2
  have n1 : s + 1 ≠ g := by omega
  have n2 : s + 1 ≠ g + 1 := by omega
  exact ⟨⟨(((h.1.1.set_other n1 _).set_other n1 _).set_other n1 _).set_other n1 _, (((h.1.2.set_other n2 _).set_other n2 _).set_other n2 _).set_other n2 _⟩, h1⟩
theorem MvK.s9 (h : MvK s g v0 v1 v2 v3 u0 u1 W) (x0 x1 : Value) : MvK s g v0 v1 v2 v3 u0 u1 ((W.setCell ⟨s + 1 + 1, 0, none⟩ x0).setCell ⟨s + 1 + 1, 1, none⟩ x1) := by
  have h1 := h.2
  have n1 : s + 1 + 1 ≠ g := by omega
  have n2 : s + 1 + 1 ≠ g + 1 := by omega
  exact ⟨⟨(h.1.1.set_other n1 _).set_other n1 _, (h.1.2.set_other n2 _).set_other n2 _⟩, h1⟩
theorem MvK.sel (h : MvK s g v0 v1 v2 v3 u0 u1 W) : (W.drew.cell? ⟨g, 0, none⟩ = some v0 ∧ W.drew.cell? ⟨g, 1, none⟩ = some v1 ∧ W.drew.cell? ⟨g, 2, none⟩ = some v2 ∧ W.drew.cell? ⟨g, 3, none⟩ = some v3) ∧ (W.drew.cell? ⟨g + 1, 0, none⟩ = some u0 ∧ W.drew.cell? ⟨g + 1, 1, none⟩ = some u1) := ⟨h.1.1.drew.four', h.1.2.drew.two'⟩
end
end Go.Proofs.Ytphfakdbgohhgaa

/-
  Contracts of spec.IterNext, IterPrev and IterSeek.
-/
namespace Go.Proofs.Ytphfakdbgohhgaa
open Go.ChangeShapes Go.WideShapes Go.ChangeAt Go.RowKit

set_option maxHeartbeats 2000000 in
set_option maxRecDepth 20000 in
theorem sIterNext_any (B : Nat) (a : Option Addr) (cap : Nat) (x : ItE) (w : World) (hO : elKV.Owns B w (.slice a x.1.length cap) x.1) (hl : x.1.length ≤ 2097152) :
    Calls Try.prog 42 #[itV (.slice a x.1.length cap) x] w (MovPost w (nextV x)) := by
  obtain ⟨L, f, t, i⟩ := x
  dsimp only at *
  have HO := hide hO
  have HOK := hide (fun W (h : elKV.Owns B W (.slice a L.length cap) L) => sIterOk_any a cap (L, f, t, i) W (owns_rdK h) hl)
  dsimp only at HOK
  obtain ⟨n, hn⟩ : ∃ n, n = L.length := ⟨_, rfl⟩
  have HN := hide hn.symm
  by_cases hk : itOk (L, f, t, i)
  · obtain ⟨hk1, hk2⟩ : -1 ≤ i ∧ i ≤ (L.length : Int) := hk.2
    obtain ⟨p, rfl⟩ : ∃ p : Nat, i = (p : Int) - 1 := ⟨(i + 1).toNat, by omega⟩
    have HGO := hide (fun W (h : elKV.Owns B W (.slice a L.length cap) L) => goUp_any B a cap L f t ((p : Int) - 1) p ⟨#[]⟩ W h hl (by omega))
    obtain ⟨R, hR⟩ : ∃ R, R = goV (L, f, t, (p : Int) - 1) (upI (L, f, t, (p : Int) - 1) ⟨#[]⟩ p : Nat) := ⟨_, rfl⟩
    have HV := hide (show nextV (L, f, t, (p : Int) - 1) = R from by
      rw [hR, nextV, if_pos hk]
      show goV _ (upI _ ⟨#[]⟩ ((p : Int) - 1 + 1).toNat : Nat) = _
      rw [show ((p : Int) - 1 + 1).toNat = p by omega])
    rw [← hR] at HGO
    obtain ⟨⟨M, x1, x2, x3⟩, ⟨y0, y1⟩, q⟩ := R
    unfold MovPost at HGO
    dsimp only at HGO
    rw [decide_eq_true hk] at HOK
    have hwr : IntKind.i64.wrap ((p : Int) - 1 + 1) = (p : Int) := by rw [IntKind.wrap_i64]; omega
    rw [← hn] at hl HO HOK HGO hk2 ⊢
    clear hO hn hk hR
    go_enter Try.func42, Try.ntmps42
    go_wp2_with fail
    refine (HOK.out _ (((HO.out.alloc _).alloc _).alloc _)).mono ?_
    rintro e w1 ⟨rfl, hb1⟩
    obtain ⟨k1, k2, k3, k4, k5⟩ := three_boxV hb1
    have HO1 := hide ((((HO.out.alloc _).alloc _).alloc _).below hb1 (Nat.le_refl _))
    obtain ⟨c0, c1, c2, c3⟩ := k1.four'
    have HY := hide k2
    have HZ := hide k3
    have HB1 := hide k4
    clear hb1 k2 k3 k4 HO HOK
    go_wp2_with fail
    refine (HGO.out _ HO1.out).mono ?_
    rintro e w2 ⟨v, rfl, ho2, hb2⟩
    obtain ⟨a2, d2, rfl, _⟩ := ho2.form
    have HY2 := hide (HY.out.below hb2 HY.out.lt)
    have HZ2 := hide (HZ.out.below hb2 HZ.out.lt)
    have HB2 := hide (HB1.out.trans (hb2.mono HB1.out.size))
    have HO2 := hide ho2
    have hw2 := hb2.size
    clear c0 c1 c2 c3 k1 ho2 hb2 HO1 HY HZ HB1 HGO
    go_wp2_with fail
    have HM := hide (MvK.new w2 w.heap.size (.slice a2 M.length d2) (.string x1) (.string x2) (.int .i64 x3) (.string y0) (.string y1) (by omega))
    obtain ⟨W5, hW5⟩ : ∃ W5, W5 = (w2.alloc (.cells #[.slice a2 M.length d2, .string x1, .string x2, .int .i64 x3] 56)).alloc (.cells #[.string y0, .string y1] 41) := ⟨_, rfl⟩
    have HYs := hide (show BoxV 56 W5 (w.heap.size + 1) _ from hW5 ▸ (HY2.out.alloc _).alloc _)
    have HZs := hide (show BoxV 41 W5 (w.heap.size + 1 + 1) _ from hW5 ▸ (HZ2.out.alloc _).alloc _)
    have HWs := hide (show Below w.heap.size w W5 from hW5 ▸ (HB2.out.alloc HB2.out.size _).alloc (by simp; omega) _)
    have HLs := hide (show elKV.Owns (w.heap.size + 1 + 1 + 1) W5 _ M from hW5 ▸ (((El.Owns.mono HO2.out k5).alloc _).alloc _))
    rw [← hW5] at HM ⊢
    clear hW5 HY2 HZ2 HB2 HO2
    obtain ⟨e0, e1, e2, e3⟩ := HYs.out.four'
    have r0 := HYs.out.frozen 0
    have r1 := HYs.out.frozen 1
    have r2 := HYs.out.frozen 2
    have r3 := HYs.out.frozen 3
    obtain ⟨s0, s1⟩ := HZs.out.two'
    have t0 := HZs.out.frozen 0
    have t1 := HZs.out.frozen 1
    have hl2 := HYs.out.lt
    have hl3 := HZs.out.lt
    go_region_held3 (fun w' => (w'.cell? ⟨w2.heap.size, 0, none⟩ = some (.slice a2 M.length d2) ∧ w'.cell? ⟨w2.heap.size, 1, none⟩ = some (.string x1) ∧ w'.cell? ⟨w2.heap.size, 2, none⟩ = some (.string x2) ∧ w'.cell? ⟨w2.heap.size, 3, none⟩ = some (.int .i64 x3)) ∧
        (w'.cell? ⟨w2.heap.size + 1, 0, none⟩ = some (.string y0) ∧ w'.cell? ⟨w2.heap.size + 1, 1, none⟩ = some (.string y1)))
      (first
        | with_reducible exact HM.out.sel
        | with_reducible exact (HM.out.s8 _ _ _ _).sel
        | with_reducible exact (HM.out.s9 _ _).sel
        | with_reducible exact ((HM.out.s8 _ _ _ _).s9 _ _).sel
        | with_reducible exact ((HM.out.s9 _ _).s8 _ _ _ _).sel) (fail)
    all_goals (
      go_wp2_with fail
      rw [HV.out]
      obtain ⟨⟨m1, m2, m3, m4⟩, ⟨m5, m6, m7, m8⟩⟩ := mov_sets (v0 := .slice a2 M.length d2) (v1 := .string x1) (v2 := .string x2) (v3 := .int .i64 x3) (u0 := .string y0) (u1 := .string y1) HYs.out HZs.out (by omega) HWs.out (by omega) (by omega) HLs.out (by omega) (by omega)
      first
        | exact bodyPost_ret (res_mov rfl _ _ (w.heap.size + 1) (w.heap.size + 1 + 1) rfl rfl m1.drew m2.drew) rfl ⟨_, rfl, El.Owns.mono m4.drew (by omega), m3.drew⟩
        | exact bodyPost_ret (res_mov rfl _ _ (w.heap.size + 1) (w.heap.size + 1 + 1) rfl rfl m5.drew m6.drew) rfl ⟨_, rfl, El.Owns.mono m8.drew (by omega), m7.drew⟩)
  · have HV := hide (show nextV (L, f, t, i) = noV from if_neg hk)
    rw [decide_eq_false hk] at HOK
    rw [← hn] at hl HO HOK ⊢
    clear hO hn hk
    go_enter Try.func42, Try.ntmps42
    go_wp2_with fail
    refine (HOK.out _ (((HO.out.alloc _).alloc _).alloc _)).mono ?_
    rintro e w1 ⟨rfl, hb1⟩
    obtain ⟨k1, k2, k3, k4, k5⟩ := three_boxV hb1
    obtain ⟨e0, e1, e2, e3⟩ := k2.four'
    have x0 := k2.frozen 0
    have x1 := k2.frozen 1
    have x2 := k2.frozen 2
    have x3 := k2.frozen 3
    obtain ⟨u0, u1⟩ := k3.two'
    have v0 := k3.frozen 0
    have v1 := k3.frozen 1
    have hl2 := k2.lt
    have hl3 := k3.lt
    have HY := hide k2
    have HZ := hide k3
    have HB1 := hide k4
    clear hb1 k1 k2 k3 k4 HO HOK
    go_wp2_with fail
    rw [HV.out]
    obtain ⟨⟨m1, m2, m3, m4⟩, _⟩ := mov_sets (v0 := .slice none 0 0) (v1 := .string ⟨#[]⟩) (v2 := .string ⟨#[]⟩) (v3 := .int .i64 0) (u0 := .string ⟨#[]⟩) (u1 := .string ⟨#[]⟩) HY.out HZ.out (by omega) HB1.out (by omega) (by omega) (El.Owns.nil (e := elKV) (w.heap.size + 1 + 1 + 1) w1) (by omega) (by omega)
    exact bodyPost_ret (res_mov rfl _ _ (w.heap.size + 1) (w.heap.size + 1 + 1) rfl rfl m1 m2) rfl ⟨_, rfl, El.Owns.nil _ _, m3⟩
set_option maxHeartbeats 2000000 in
set_option maxRecDepth 20000 in
theorem sIterPrev_any (B : Nat) (a : Option Addr) (cap : Nat) (x : ItE) (w : World) (hO : elKV.Owns B w (.slice a x.1.length cap) x.1) (hl : x.1.length ≤ 2097152) :
    Calls Try.prog 45 #[itV (.slice a x.1.length cap) x] w (MovPost w (prevV x)) := by
  obtain ⟨L, f, t, i⟩ := x
  dsimp only at *
  have HO := hide hO
  have HOK := hide (fun W (h : elKV.Owns B W (.slice a L.length cap) L) => sIterOk_any a cap (L, f, t, i) W (owns_rdK h) hl)
  dsimp only at HOK
  obtain ⟨n, hn⟩ : ∃ n, n = L.length := ⟨_, rfl⟩
  have HN := hide hn.symm
  by_cases hk : itOk (L, f, t, i)
  · obtain ⟨hk1, hk2⟩ : -1 ≤ i ∧ i ≤ (L.length : Int) := hk.2
    have HGO := hide (fun W (h : elKV.Owns B W (.slice a L.length cap) L) => goDn_any B a cap L f t i (i - 1) W h hl (by omega) (by omega))
    obtain ⟨R, hR⟩ : ∃ R, R = goV (L, f, t, i) (dnI (L, f, t, i) (i - 1 + 1).toNat) := ⟨_, rfl⟩
    have HV := hide (show prevV (L, f, t, i) = R from by
      rw [hR, prevV, if_pos hk, show i - 1 + 1 = i by omega])
    rw [← hR] at HGO
    obtain ⟨⟨M, x1, x2, x3⟩, ⟨y0, y1⟩, q⟩ := R
    unfold MovPost at HGO
    dsimp only at HGO
    rw [decide_eq_true hk] at HOK
    have hwr : IntKind.i64.wrap (i - 1) = i - 1 := by rw [IntKind.wrap_i64]; omega
    rw [← hn] at hl HO HOK HGO hk2 ⊢
    clear hO hn hk hR
    go_enter Try.func45, Try.ntmps45
    go_wp2_with fail
    refine (HOK.out _ (((HO.out.alloc _).alloc _).alloc _)).mono ?_
    rintro e w1 ⟨rfl, hb1⟩
    obtain ⟨k1, k2, k3, k4, k5⟩ := three_boxV hb1
    have HO1 := hide ((((HO.out.alloc _).alloc _).alloc _).below hb1 (Nat.le_refl _))
    obtain ⟨c0, c1, c2, c3⟩ := k1.four'
    have HY := hide k2
    have HZ := hide k3
    have HB1 := hide k4
    clear hb1 k2 k3 k4 HO HOK
    go_wp2_with fail
    refine (HGO.out _ HO1.out).mono ?_
    rintro e w2 ⟨v, rfl, ho2, hb2⟩
    obtain ⟨a2, d2, rfl, _⟩ := ho2.form
    have HY2 := hide (HY.out.below hb2 HY.out.lt)
    have HZ2 := hide (HZ.out.below hb2 HZ.out.lt)
    have HB2 := hide (HB1.out.trans (hb2.mono HB1.out.size))
    have HO2 := hide ho2
    have hw2 := hb2.size
    clear c0 c1 c2 c3 k1 ho2 hb2 HO1 HY HZ HB1 HGO
    go_wp2_with fail
    have HM := hide (MvK.new w2 w.heap.size (.slice a2 M.length d2) (.string x1) (.string x2) (.int .i64 x3) (.string y0) (.string y1) (by omega))
    obtain ⟨W5, hW5⟩ : ∃ W5, W5 = (w2.alloc (.cells #[.slice a2 M.length d2, .string x1, .string x2, .int .i64 x3] 56)).alloc (.cells #[.string y0, .string y1] 41) := ⟨_, rfl⟩
    have HYs := hide (show BoxV 56 W5 (w.heap.size + 1) _ from hW5 ▸ (HY2.out.alloc _).alloc _)
    have HZs := hide (show BoxV 41 W5 (w.heap.size + 1 + 1) _ from hW5 ▸ (HZ2.out.alloc _).alloc _)
    have HWs := hide (show Below w.heap.size w W5 from hW5 ▸ (HB2.out.alloc HB2.out.size _).alloc (by simp; omega) _)
    have HLs := hide (show elKV.Owns (w.heap.size + 1 + 1 + 1) W5 _ M from hW5 ▸ (((El.Owns.mono HO2.out k5).alloc _).alloc _))
    rw [← hW5] at HM ⊢
    clear hW5 HY2 HZ2 HB2 HO2
    obtain ⟨e0, e1, e2, e3⟩ := HYs.out.four'
    have r0 := HYs.out.frozen 0
    have r1 := HYs.out.frozen 1
    have r2 := HYs.out.frozen 2
    have r3 := HYs.out.frozen 3
    obtain ⟨s0, s1⟩ := HZs.out.two'
    have t0 := HZs.out.frozen 0
    have t1 := HZs.out.frozen 1
    have hl2 := HYs.out.lt
    have hl3 := HZs.out.lt
    go_region_held3 (fun w' => (w'.cell? ⟨w2.heap.size, 0, none⟩ = some (.slice a2 M.length d2) ∧ w'.cell? ⟨w2.heap.size, 1, none⟩ = some (.string x1) ∧ w'.cell? ⟨w2.heap.size, 2, none⟩ = some (.string x2) ∧ w'.cell? ⟨w2.heap.size, 3, none⟩ = some (.int .i64 x3)) ∧
        (w'.cell? ⟨w2.heap.size + 1, 0, none⟩ = some (.string y0) ∧ w'.cell? ⟨w2.heap.size + 1, 1, none⟩ = some (.string y1)))
      (first
        | with_reducible exact HM.out.sel
        | with_reducible exact (HM.out.s8 _ _ _ _).sel
        | with_reducible exact (HM.out.s9 _ _).sel
        | with_reducible exact ((HM.out.s8 _ _ _ _).s9 _ _).sel
        | with_reducible exact ((HM.out.s9 _ _).s8 _ _ _ _).sel) (fail)
    all_goals (
      go_wp2_with fail
      rw [HV.out]
      obtain ⟨⟨m1, m2, m3, m4⟩, ⟨m5, m6, m7, m8⟩⟩ := mov_sets (v0 := .slice a2 M.length d2) (v1 := .string x1) (v2 := .string x2) (v3 := .int .i64 x3) (u0 := .string y0) (u1 := .string y1) HYs.out HZs.out (by omega) HWs.out (by omega) (by omega) HLs.out (by omega) (by omega)
      first
        | exact bodyPost_ret (res_mov rfl _ _ (w.heap.size + 1) (w.heap.size + 1 + 1) rfl rfl m1.drew m2.drew) rfl ⟨_, rfl, El.Owns.mono m4.drew (by omega), m3.drew⟩
        | exact bodyPost_ret (res_mov rfl _ _ (w.heap.size + 1) (w.heap.size + 1 + 1) rfl rfl m5.drew m6.drew) rfl ⟨_, rfl, El.Owns.mono m8.drew (by omega), m7.drew⟩)
  · have HV := hide (show prevV (L, f, t, i) = noV from if_neg hk)
    rw [decide_eq_false hk] at HOK
    rw [← hn] at hl HO HOK ⊢
    clear hO hn hk
    go_enter Try.func45, Try.ntmps45
    go_wp2_with fail
    refine (HOK.out _ (((HO.out.alloc _).alloc _).alloc _)).mono ?_
    rintro e w1 ⟨rfl, hb1⟩
    obtain ⟨k1, k2, k3, k4, k5⟩ := three_boxV hb1
    obtain ⟨e0, e1, e2, e3⟩ := k2.four'
    have x0 := k2.frozen 0
    have x1 := k2.frozen 1
    have x2 := k2.frozen 2
    have x3 := k2.frozen 3
    obtain ⟨u0, u1⟩ := k3.two'
    have v0 := k3.frozen 0
    have v1 := k3.frozen 1
    have hl2 := k2.lt
    have hl3 := k3.lt
    have HY := hide k2
    have HZ := hide k3
    have HB1 := hide k4
    clear hb1 k1 k2 k3 k4 HO HOK
    go_wp2_with fail
    rw [HV.out]
    obtain ⟨⟨m1, m2, m3, m4⟩, _⟩ := mov_sets (v0 := .slice none 0 0) (v1 := .string ⟨#[]⟩) (v2 := .string ⟨#[]⟩) (v3 := .int .i64 0) (u0 := .string ⟨#[]⟩) (u1 := .string ⟨#[]⟩) HY.out HZ.out (by omega) HB1.out (by omega) (by omega) (El.Owns.nil (e := elKV) (w.heap.size + 1 + 1 + 1) w1) (by omega) (by omega)
    exact bodyPost_ret (res_mov rfl _ _ (w.heap.size + 1) (w.heap.size + 1 + 1) rfl rfl m1 m2) rfl ⟨_, rfl, El.Owns.nil _ _, m3⟩
set_option maxHeartbeats 2000000 in
set_option maxRecDepth 20000 in
theorem sIterSeek_any (B : Nat) (a : Option Addr) (cap : Nat) (x : ItE) (g : ByteArray) (w : World) (hO : elKV.Owns B w (.slice a x.1.length cap) x.1) (hl : x.1.length ≤ 2097152) :
    Calls Try.prog 47 #[itV (.slice a x.1.length cap) x, .string g] w (MovPost w (seekV x g)) := by
  obtain ⟨L, f, t, i⟩ := x
  dsimp only at *
  have HO := hide hO
  have HOK := hide (fun W (h : elKV.Owns B W (.slice a L.length cap) L) => sIterOk_any a cap (L, f, t, i) W (owns_rdK h) hl)
  dsimp only at HOK
  obtain ⟨n, hn⟩ : ∃ n, n = L.length := ⟨_, rfl⟩
  have HN := hide hn.symm
  by_cases hk : itOk (L, f, t, i)
  · obtain ⟨hk1, hk2⟩ : -1 ≤ i ∧ i ≤ (L.length : Int) := hk.2
    have HGO := hide (fun W (h : elKV.Owns B W (.slice a L.length cap) L) => goUp_any B a cap L f t i 0 g W h hl (by omega))
    obtain ⟨R, hR⟩ : ∃ R, R = goV (L, f, t, i) (upI (L, f, t, i) g 0 : Nat) := ⟨_, rfl⟩
    have HV := hide (show seekV (L, f, t, i) g = R from by
      rw [hR, seekV, if_pos hk])
    rw [← hR] at HGO
    obtain ⟨⟨M, x1, x2, x3⟩, ⟨y0, y1⟩, q⟩ := R
    unfold MovPost at HGO
    dsimp only at HGO
    rw [decide_eq_true hk] at HOK
    rw [← hn] at hl HO HOK HGO hk2 ⊢
    clear hO hn hk hR
    go_enter Try.func47, Try.ntmps47
    go_wp2_with fail
    refine (HOK.out _ (((HO.out.alloc _).alloc _).alloc _)).mono ?_
    rintro e w1 ⟨rfl, hb1⟩
    obtain ⟨k1, k2, k3, k4, k5⟩ := three_boxV hb1
    have HO1 := hide ((((HO.out.alloc _).alloc _).alloc _).below hb1 (Nat.le_refl _))
    obtain ⟨c0, c1, c2, c3⟩ := k1.four'
    have HY := hide k2
    have HZ := hide k3
    have HB1 := hide k4
    clear hb1 k2 k3 k4 HO HOK
    go_wp2_with fail
    refine (HGO.out _ HO1.out).mono ?_
    rintro e w2 ⟨v, rfl, ho2, hb2⟩
    obtain ⟨a2, d2, rfl, _⟩ := ho2.form
    have HY2 := hide (HY.out.below hb2 HY.out.lt)
    have HZ2 := hide (HZ.out.below hb2 HZ.out.lt)
    have HB2 := hide (HB1.out.trans (hb2.mono HB1.out.size))
    have HO2 := hide ho2
    have hw2 := hb2.size
    clear c0 c1 c2 c3 k1 ho2 hb2 HO1 HY HZ HB1 HGO
    go_wp2_with fail
    have HM := hide (MvK.new w2 w.heap.size (.slice a2 M.length d2) (.string x1) (.string x2) (.int .i64 x3) (.string y0) (.string y1) (by omega))
    obtain ⟨W5, hW5⟩ : ∃ W5, W5 = (w2.alloc (.cells #[.slice a2 M.length d2, .string x1, .string x2, .int .i64 x3] 56)).alloc (.cells #[.string y0, .string y1] 41) := ⟨_, rfl⟩
    have HYs := hide (show BoxV 56 W5 (w.heap.size + 1) _ from hW5 ▸ (HY2.out.alloc _).alloc _)
    have HZs := hide (show BoxV 41 W5 (w.heap.size + 1 + 1) _ from hW5 ▸ (HZ2.out.alloc _).alloc _)
    have HWs := hide (show Below w.heap.size w W5 from hW5 ▸ (HB2.out.alloc HB2.out.size _).alloc (by simp; omega) _)
    have HLs := hide (show elKV.Owns (w.heap.size + 1 + 1 + 1) W5 _ M from hW5 ▸ (((El.Owns.mono HO2.out k5).alloc _).alloc _))
    rw [← hW5] at HM ⊢
    clear hW5 HY2 HZ2 HB2 HO2
    obtain ⟨e0, e1, e2, e3⟩ := HYs.out.four'
    have r0 := HYs.out.frozen 0
    have r1 := HYs.out.frozen 1
    have r2 := HYs.out.frozen 2
    have r3 := HYs.out.frozen 3
    obtain ⟨s0, s1⟩ := HZs.out.two'
    have t0 := HZs.out.frozen 0
    have t1 := HZs.out.frozen 1
    have hl2 := HYs.out.lt
    have hl3 := HZs.out.lt
    go_region_held3 (fun w' => (w'.cell? ⟨w2.heap.size, 0, none⟩ = some (.slice a2 M.length d2) ∧ w'.cell? ⟨w2.heap.size, 1, none⟩ = some (.string x1) ∧ w'.cell? ⟨w2.heap.size, 2, none⟩ = some (.string x2) ∧ w'.cell? ⟨w2.heap.size, 3, none⟩ = some (.int .i64 x3)) ∧
        (w'.cell? ⟨w2.heap.size + 1, 0, none⟩ = some (.string y0) ∧ w'.cell? ⟨w2.heap.size + 1, 1, none⟩ = some (.string y1)))
      (first
        | with_reducible exact HM.out.sel
        | with_reducible exact (HM.out.s8 _ _ _ _).sel
        | with_reducible exact (HM.out.s9 _ _).sel
        | with_reducible exact ((HM.out.s8 _ _ _ _).s9 _ _).sel
        | with_reducible exact ((HM.out.s9 _ _).s8 _ _ _ _).sel) (fail)
    all_goals (
      go_wp2_with fail
      rw [HV.out]
      obtain ⟨⟨m1, m2, m3, m4⟩, ⟨m5, m6, m7, m8⟩⟩ := mov_sets (v0 := .slice a2 M.length d2) (v1 := .string x1) (v2 := .string x2) (v3 := .int .i64 x3) (u0 := .string y0) (u1 := .string y1) HYs.out HZs.out (by omega) HWs.out (by omega) (by omega) HLs.out (by omega) (by omega)
      first
        | exact bodyPost_ret (res_mov rfl _ _ (w.heap.size + 1) (w.heap.size + 1 + 1) rfl rfl m1.drew m2.drew) rfl ⟨_, rfl, El.Owns.mono m4.drew (by omega), m3.drew⟩
        | exact bodyPost_ret (res_mov rfl _ _ (w.heap.size + 1) (w.heap.size + 1 + 1) rfl rfl m5.drew m6.drew) rfl ⟨_, rfl, El.Owns.mono m8.drew (by omega), m7.drew⟩)
  · have HV := hide (show seekV (L, f, t, i) g = noV from if_neg hk)
    rw [decide_eq_false hk] at HOK
    rw [← hn] at hl HO HOK ⊢
    clear hO hn hk
    go_enter Try.func47, Try.ntmps47
    go_wp2_with fail
    refine (HOK.out _ (((HO.out.alloc _).alloc _).alloc _)).mono ?_
    rintro e w1 ⟨rfl, hb1⟩
    obtain ⟨k1, k2, k3, k4, k5⟩ := three_boxV hb1
    obtain ⟨e0, e1, e2, e3⟩ := k2.four'
    have x0 := k2.frozen 0
    have x1 := k2.frozen 1
    have x2 := k2.frozen 2
    have x3 := k2.frozen 3
    obtain ⟨u0, u1⟩ := k3.two'
    have v0 := k3.frozen 0
    have v1 := k3.frozen 1
    have hl2 := k2.lt
    have hl3 := k3.lt
    have HY := hide k2
    have HZ := hide k3
    have HB1 := hide k4
    clear hb1 k1 k2 k3 k4 HO HOK
    go_wp2_with fail
    rw [HV.out]
    obtain ⟨⟨m1, m2, m3, m4⟩, _⟩ := mov_sets (v0 := .slice none 0 0) (v1 := .string ⟨#[]⟩) (v2 := .string ⟨#[]⟩) (v3 := .int .i64 0) (u0 := .string ⟨#[]⟩) (u1 := .string ⟨#[]⟩) HY.out HZ.out (by omega) HB1.out (by omega) (by omega) (El.Owns.nil (e := elKV) (w.heap.size + 1 + 1 + 1) w1) (by omega) (by omega)
    exact bodyPost_ret (res_mov rfl _ _ (w.heap.size + 1) (w.heap.size + 1 + 1) rfl rfl m1 m2) rfl ⟨_, rfl, El.Owns.nil _ _, m3⟩
end Go.Proofs.Ytphfakdbgohhgaa
