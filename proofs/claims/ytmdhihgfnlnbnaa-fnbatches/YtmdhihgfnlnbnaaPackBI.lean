/-
  Texts of this proof, put together: AppI, PutS, AppS, DrawM, DrawQ.
-/
import Derived.Test.YtmdhihgfnlnbnaaPackBE
import Derived.Test.YtmdhihgfnlnbnaaPackBG
import Derived.Test.YtmdhihgfnlnbnaaPackAR
import Derived.Test.YtmdhihgfnlnbnaaPackAC
import Derived.Lib.SmallJoins
import Derived.Test.YtmdhihgfnlnbnaaPackBH
import Derived.Test.YtmdhihgfnlnbnaaPackAV
import Derived.Test.YtmdhihgfnlnbnaaPackAW
import Derived.Test.YtmdhihgfnlnbnaaPackAI

/-
  Contracts of slices.Clone at []KV and of impl.ApplyBatch.
-/
namespace Go.Proofs.Ytmdhihgfnlnbnaa
open Go.ChangeShapes Go.WideShapes Go.ChangeAt Go.RowKit

theorem litKV (B : Nat) (w : World) (hB : B ≤ w.heap.size) : elKV.Owns B (w.alloc (.cells #[] 56)) (.slice (some ⟨w.heap.size, 0, none⟩) 0 0) [] :=
  El.Owns.lit B w [] #[] 0 rfl rfl hB (by decide)
/-- a slice's address is a place in a row, nil where there is none -/
def Plain (a : Option Addr) (n cap : Nat) : Prop := (∀ p, a = some p → ∃ b off, p = ⟨b, off, none⟩) ∧ (a = none → n = 0 ∧ cap = 0)
theorem El.Owns.plain {α : Type} {e : El α} {B : Nat} {w : World} {a : Option Addr} {n cap : Nat} {L : List α} (h : e.Owns B w (.slice a n cap) L) : Plain a n cap := by
  obtain ⟨_, ⟨h1, h0⟩ | ⟨g, c, cur, h1, _⟩⟩ := h
  · injection h1 with e1 e2 e3
    exact ⟨fun p hp => (by rw [e1] at hp; cases hp), fun _ => ⟨e2, e3⟩⟩
  · injection h1 with e1 e2 e3
    exact ⟨fun p hp => ⟨g, 0, by rw [e1] at hp; exact (Option.some.inj hp).symm⟩, fun hn => (by rw [e1] at hn; cases hn)⟩
set_option maxHeartbeats 1000000 in
set_option maxRecDepth 20000 in
theorem cloneKV_any (a : Option Addr) (cap : Nat) (L : List KV) (w : World) (hr : elKV.Rd w w.heap.size a L) (ha : Plain a L.length cap) (hl : L.length ≤ 1099511627775) :
    Calls Try.prog 36 #[.slice a L.length cap] w (KVPost w L) := by
  obtain ⟨n, hn⟩ : ∃ n, L.length = n := ⟨_, rfl⟩
  rw [hn] at ha hl ⊢
  cases a with
  | none =>
    obtain ⟨rfl, rfl⟩ := ha.2 rfl
    obtain rfl : L = [] := List.eq_nil_of_length_eq_zero hn
    clear hn hr ha hl
    have hq := fun W => Lib.run_eql_slice_nil (P := Try.prog) W 24 56 none 0 0 0 0 Try.underlying24
    go_enter Try.func36, Try.ntmps36
    go_wp2_with fail
    go_ret
    exact ⟨_, rfl, El.Owns.nil _ _, Below.refl _ _⟩
  | some p =>
    obtain ⟨b, off, rfl⟩ := ha.1 p rfl
    have HO := hide (litKV w.heap.size w (Nat.le_refl _))
    have HB := hide ((Below.refl w.heap.size w).alloc (Nat.le_refl _) (.cells #[] 56))
    have HR := hide ((hr.below HB.out (Nat.le_refl _)).mono HB.out.size)
    have hB : w.heap.size ≤ (w.alloc (.cells #[] 56)).heap.size := HB.out.size
    have hM : ([] ++ L : List KV) = L := rfl
    have hq := fun W => Lib.run_eql_slice_nil (P := Try.prog) W 24 56 (some ⟨b, off, none⟩) n cap 0 0 Try.underlying24
    clear hr ha
    go_enter Try.func36, Try.ntmps36
    go_wp2_with (at_builtin; refine El.append rfl (.tmp 5) (.tmp 6) 24 rfl Try.underlying24 _ _ infoKV rfl (by decide) (by decide) w.heap.size w _ _ (some ⟨b, off, none⟩) n cap [] L rfl rfl hn (fun h => by cases h) HO HR (fun p hp => ⟨_, _, (Option.some.inj hp).symm⟩) HB hB L n hM hn (by omega) ?_; intro a5 c5 w5 HO5 HB5 HG5 hz5)
    go_ret
    exact ⟨_, rfl, HO5.out, HB5.out⟩

def iappM (m : List KV) (l : List Opn) : List KV := if batOk l then (if mapOk m then applyL m l else []) else m
def ApplyPost (w : World) (M : List KV) (b : Bool) (e : Ending) (w' : World) : Prop := ∃ v, e = .returned (.tuple #[v, .bool b]) ∧ elKV.Owns w.heap.size w' v M ∧ Below w.heap.size w w'
theorem length_applyL : ∀ (l : List Opn) (m : List KV), (applyL m l).length ≤ m.length + l.length
  | [], m => by simp [applyL]
  | o :: l, m => by
    have h1 := length_applyL l (putO m o)
    have h2 := length_putO m o
    show (applyL (putO m o) l).length ≤ _
    rw [List.length_cons]
    omega
theorem applyL_next {m : List KV} {l : List Opn} {j : Nat} {o : Opn} (h : l[j]? = some o) : applyL m (l.take (j + 1)) = putO (applyL m (l.take j)) o := by rw [take_snoc' h, applyL_snoc]
set_option maxHeartbeats 2000000 in
set_option maxRecDepth 20000 in
theorem iApply_any (a a' : Option Addr) (cap cap' : Nat) (m : List KV) (l : List Opn) (w : World) (hr : elKV.Rd w w.heap.size a m) (ha : Plain a m.length cap) (hr' : elOp.Rd w w.heap.size a' l) (hl : m.length ≤ 1000000) (hl' : l.length ≤ 1000000) :
    Calls Try.prog 10 #[.slice a m.length cap, .slice a' l.length cap'] w (ApplyPost w (iappM m l) (applyB m l)) := by
  have HR := hide hr
  have HR' := hide hr'
  have HBO := hide (fun W (h : elOp.Rd W W.heap.size a' l) => iBatchOk_any a' cap' l W h (by omega))
  have HMO := hide (fun W (h : elKV.Rd W W.heap.size a m) => iMapOk_any a cap m W h (by omega))
  have HCL := hide (fun W (h : elKV.Rd W W.heap.size a m) => cloneKV_any a cap m W h ha (by omega))
  have HMF := hide (fun W hs (h : elKV.Rd W W.heap.size a m) => mapOf_any a cap m hs W h (by omega))
  obtain ⟨n, hn⟩ : ∃ n, n = m.length := ⟨_, rfl⟩
  obtain ⟨k, hk⟩ : ∃ k, k = l.length := ⟨_, rfl⟩
  have HN := hide hn
  have HK := hide hk
  rw [← hn] at HMO HCL HMF hl ⊢
  rw [← hk] at HBO hl' ⊢
  clear hn hk hr hr' ha
  by_cases hb : batOk l
  · by_cases hm : mapOk m
    · rw [decide_eq_true hb] at HBO
      rw [decide_eq_true hm] at HMO
      rw [show iappM m l = applyL m l by rw [iappM, if_pos hb, if_pos hm], show applyB m l = true from decide_eq_true ⟨hm, hb⟩]
      have HM := hide hm
      have HBt := hide hb
      clear hb hm HCL
      go_enter Try.func10, Try.ntmps10
      go_wp2_with fail
      refine (HBO.out _ HR'.out).mono ?_
      rintro e w1 ⟨rfl, hb1⟩
      have HB1 := hide hb1
      clear hb1
      go_wp2_with fail
      refine (HMO.out _ ((HR.out.below HB1.out (Nat.le_refl _)).mono HB1.out.size)).mono ?_
      rintro e w2 ⟨rfl, hb2⟩
      have HB2 := hide (HB1.out.trans (hb2.mono HB1.out.size))
      clear hb2 HB1
      go_wp2_with fail
      refine (HMF.out _ HM.out.2 ((HR.out.below HB2.out (Nat.le_refl _)).mono HB2.out.size)).mono ?_
      rintro e w3 ⟨vk, vv, rfl, hmv, hb3⟩
      have HMV := hide hmv
      have HB3 := hide (HB2.out.trans (hb3.mono HB2.out.size))
      have hs2 := HB2.out.size
      have hs3 := HB3.out.size
      obtain ⟨a1, k1, rfl, _⟩ := hmv.keys.form
      obtain ⟨a2, k2, rfl, _⟩ := hmv.vals.form
      obtain ⟨n1, hn1⟩ : ∃ n1, n1 = (m.map Prod.fst).length := ⟨_, rfl⟩
      obtain ⟨n2, hn2⟩ : ∃ n2, n2 = (m.map Prod.snd).length := ⟨_, rfl⟩
      rw [← hn1, ← hn2] at HMV ⊢
      clear hmv hb3 HMF HMO HBO hn1 hn2
      have HMI := hide (show MapIn w.heap.size (w3.alloc (.cells #[.slice a1 n1 k1, .slice a2 n2 k2] 59)) w3.heap.size m from
        ⟨_, _, BoxV.new _ w3 _, ⟨(HMV.out.keys.mono hs2).alloc _, (HMV.out.vals.mono hs2).alloc _, HMV.out.apart⟩⟩)
      have HB4 := hide (HB3.out.alloc hs3 (.cells #[.slice a1 n1 k1, .slice a2 n2 k2] 59))
      clear HMV
      go_wp2_with fail
      go_loopw [21] (fun i wr => ∃ j : Nat, i = .int .i64 j ∧ j ≤ k ∧ Hid (MapIn w.heap.size wr w3.heap.size (applyL m (l.take j))) ∧ Hid (Below w.heap.size w wr)) (fun i _ => k - (intOf i).toNat)
      case atStart => exact ⟨0, rfl, by omega, HMI, HB4⟩
      case round =>
        obtain ⟨j, rfl, hj, HMJ, HBJ⟩ := hrel
        have hsj := HBJ.out.size
        by_cases hlt : j < k
        · have hjL : j < l.length := by rw [← HK.out]; exact hlt
          obtain ⟨b, off, rfl, hb, hcell⟩ := HR'.out (by omega)
          obtain ⟨f0, f1, f2, hx⟩ := partsOp l[j]
          obtain ⟨c0, c1, c2⟩ := cellsOp hx (hcell j hjL)
          have d0 := (HBJ.out.cell (p := ⟨b, off + j * 3, none⟩) hb).trans c0
          have d1 := (HBJ.out.cell (p := ⟨b, off + j * 3 + 1, none⟩) hb).trans c1
          have d2 := (HBJ.out.cell (p := ⟨b, off + j * 3 + 2, none⟩) hb).trans c2
          have HX := hide (show l[j]? = some (f0, f1, f2) by rw [List.getElem?_eq_getElem hjL, hx])
          have HE := hide (applyL_next (m := m) HX.out)
          have HSrt := hide (show Srt (applyL m (l.take j)) from (mapOk_applyL _ _ HM.out (fun o ho => HBt.out.2.2 o (List.mem_of_mem_take ho))).2)
          have hln : (applyL m (l.take j)).length ≤ 1099511627775 := by
            have h1 := length_applyL (l.take j) m
            rw [List.length_take] at h1
            have h2 := HN.out
            omega
          have HMa := hide (HMJ.out.below ((Below.refl wr.heap.size wr).alloc (Nat.le_refl _) (.cells #[.string f0, .bool f1, .string f2] 62)) (Nat.le_refl _))
          have HBa := hide (HBJ.out.alloc hsj (.cells #[.string f0, .bool f1, .string f2] 62))
          clear hcell c0 c1 c2 hx hjL HX HMJ HBJ
          cases f1 with
          | true =>
            rw [show putO (applyL m (l.take j)) (f0, true, f2) = delK f0 (applyL m (l.take j)) from if_pos rfl] at HE
            have HRM := hide (remove_any w.heap.size w3.heap.size _ HSrt.out hln f0 _ HMa.out HBa.out.size)
            rw [← HE.out] at HRM
            clear HE HSrt HMa
            go_wp2_with fail
            refine HRM.out.mono ?_
            rintro e w5 ⟨rfl, hm5, ht5⟩
            have HM5 := hide hm5
            have HB5 := hide (HBa.out.trans (ht5.below hs3))
            clear hm5 ht5 HRM HBa
            go_wp2_with fail
            go_roundw
            case rel => exact ⟨j + 1, by go_num, by omega, HM5, HB5⟩
            case measure => simp [intOf]; omega
          | false =>
            rw [show putO (applyL m (l.take j)) (f0, false, f2) = putK f0 f2 (applyL m (l.take j)) from if_neg (by simp)] at HE
            have HRM := hide (set_any w.heap.size w3.heap.size _ HSrt.out hln f0 f2 _ HMa.out HBa.out.size)
            rw [← HE.out] at HRM
            clear HE HSrt HMa
            go_wp2_with fail
            refine HRM.out.mono ?_
            rintro e w5 ⟨rfl, hm5, ht5⟩
            have HM5 := hide hm5
            have HB5 := hide (HBa.out.trans (ht5.below hs3))
            clear hm5 ht5 HRM HBa
            go_wp2_with fail
            go_roundw
            case rel => exact ⟨j + 1, by go_num, by omega, HM5, HB5⟩
            case measure => simp [intOf]; omega
        · have HME := hide (show MapIn w.heap.size wr w3.heap.size (applyL m l) by
            have := HMJ.out
            rwa [List.take_of_length_le (by rw [← HK.out]; omega)] at this)
          have hln : (applyL m l).length ≤ 1048576 := by
            have h1 := length_applyL l m
            have h2 := HN.out
            have h3 := HBt.out.2.1
            omega
          obtain ⟨vk, vv, hxx, hmv⟩ := HME.out
          obtain ⟨a3, k3, e3, hr3, _⟩ := hmv.keys.form
          obtain ⟨a4, k4, e4, hr4, _⟩ := hmv.vals.form
          rw [List.length_map] at e3 e4
          subst e3 e4
          have HXX := hide hxx
          have HLI := hide (listOf_any a3 a4 k3 k4 (applyL m l) hln wr hr3 hr4)
          obtain ⟨n3, hn3⟩ : ∃ n3, n3 = (applyL m l).length := ⟨_, rfl⟩
          rw [← hn3] at HXX HLI
          obtain ⟨c0, c1⟩ := HXX.out.two
          have hltx := HXX.out.lt
          clear hxx hmv hr3 hr4 hn3 HMJ HME
          go_wp2_with fail
          refine HLI.out.mono ?_
          rintro e w6 ⟨v6, rfl, ho6, hb6⟩
          have HO6 := hide (ho6.mono hsj)
          have HB6 := hide (HBJ.out.trans (hb6.mono hsj))
          obtain ⟨a6, k6, rfl, _⟩ := ho6.form
          clear ho6 hb6 HLI
          go_wp2_with fail
          go_ret2
          exact ⟨_, rfl, HO6.out, HB6.out⟩
    · rw [decide_eq_true hb] at HBO
      rw [decide_eq_false hm] at HMO
      rw [show iappM m l = [] by rw [iappM, if_pos hb, if_neg hm], show applyB m l = false from decide_eq_false (fun h => hm h.1)]
      clear hb hm HCL HMF
      go_enter Try.func10, Try.ntmps10
      go_wp2_with fail
      refine (HBO.out _ HR'.out).mono ?_
      rintro e w1 ⟨rfl, hb1⟩
      have HB1 := hide hb1
      clear hb1
      go_wp2_with fail
      refine (HMO.out _ ((HR.out.below HB1.out (Nat.le_refl _)).mono HB1.out.size)).mono ?_
      rintro e w2 ⟨rfl, hb2⟩
      have HB2 := hide (HB1.out.trans (hb2.mono HB1.out.size))
      clear hb2 HB1
      go_wp2_with fail
      go_ret2
      exact ⟨_, rfl, El.Owns.nil _ _, HB2.out⟩
  · rw [decide_eq_false hb] at HBO
    rw [show iappM m l = m by rw [iappM, if_neg hb], show applyB m l = false from decide_eq_false (fun h => hb h.2)]
    clear hb HMF HMO
    go_enter Try.func10, Try.ntmps10
    go_wp2_with fail
    refine (HBO.out _ HR'.out).mono ?_
    rintro e w1 ⟨rfl, hb1⟩
    have HB1 := hide hb1
    clear hb1
    go_wp2_with fail
    refine (HCL.out _ ((HR.out.below HB1.out (Nat.le_refl _)).mono HB1.out.size)).mono ?_
    rintro e w2 ⟨v2, rfl, ho2, hb2⟩
    have HB2 := hide (HB1.out.trans (hb2.mono HB1.out.size))
    have HO2 := hide (ho2.mono HB1.out.size)
    obtain ⟨a2, k2, rfl, _⟩ := ho2.form
    clear hb2 HB1 ho2
    go_wp2_with fail
    go_ret2
    exact ⟨_, rfl, HO2.out, HB2.out⟩
end Go.Proofs.Ytmdhihgfnlnbnaa

/-
  Contract of spec.l7Put.
-/
namespace Go.Proofs.Ytmdhihgfnlnbnaa
open Go.ChangeShapes Go.WideShapes Go.ChangeAt Go.RowKit

set_option maxHeartbeats 4000000 in
set_option maxRecDepth 20000 in
theorem l7Put_any (a : Option Addr) (cap : Nat) (m : List KV) (k v : ByteArray) (d : Bool) (w : World) (hr : elKV.Rd w w.heap.size a m) (hl : m.length ≤ 1000000) :
    Calls Try.prog 42 #[.slice a m.length cap, .agg #[.string k, .bool d, .string v]] w (KVPost w (scanP k v d m)) := by
  have HR := hide hr
  obtain ⟨X, hX⟩ : ∃ X, X = scanP k v d m := ⟨_, rfl⟩
  have HX := hide hX
  rw [← hX]
  obtain ⟨n, hn⟩ : ∃ n, n = m.length := ⟨_, rfl⟩
  have HN := hide hn
  rw [← hn] at hl ⊢
  clear hn hX hr
  obtain ⟨W0, hW0⟩ : ∃ W0, W0 = w.alloc (.cells #[.string k, .bool d, .string v] 62) := ⟨_, rfl⟩
  have HBX := hide (show BoxV 62 W0 w.heap.size #[.string k, .bool d, .string v] by rw [hW0]; exact BoxV.new _ w _)
  have HB0 := hide (show Below w.heap.size w W0 by rw [hW0]; exact (Below.refl _ w).alloc (Nat.le_refl _) _)
  have hz0 : W0.heap.size = w.heap.size + 1 := by rw [hW0]; simp
  have HO0 := hide (litKV (w.heap.size + 1) W0 (by omega))
  have HB1 := hide ((Below.refl (w.heap.size + 1) W0).alloc (by omega) (.cells #[] 56))
  rw [hz0] at HO0
  rw [hW0] at HO0 HB1
  go_enter Try.func42, Try.ntmps42
  go_wp2_with fail
  go_loopw [5, 6, 7] (fun o p i wr => ∃ (j y : Nat) (a' : Option Addr) (c' : Nat) (q : Bool) (pre : List KV), o = .slice a' y c' ∧ p = .bool q ∧ i = .int .i64 j ∧ j ≤ n ∧ pre.length = y ∧ y ≤ 2 * j ∧ Hid (X = pre ++ scanP k v q (m.drop j)) ∧ Hid (elKV.Owns (w.heap.size + 1) wr (.slice a' y c') pre) ∧ Hid (Below (w.heap.size + 1) W0 wr)) (fun _ _ i _ => n - (intOf i).toNat)
  case atStart => exact ⟨0, 0, _, _, d, [], rfl, rfl, rfl, by omega, rfl, by omega, HX, HO0, by rw [hW0]; exact HB1⟩
  case round =>
    obtain ⟨j, y, a', c', q, pre, rfl, rfl, rfl, hj, hpre, hy, HXR, HO, HB⟩ := hrel
    have hsz := HB.out.size
    have HBY := hide (HBX.out.below HB.out (by omega))
    obtain ⟨b0, b1, b2⟩ := HBY.out.three
    have hltb := HBY.out.lt
    by_cases hlt : j < n
    · have hjL : j < m.length := by rw [← HN.out]; exact hlt
      obtain ⟨b, off, rfl, hb, hcell⟩ := HR.out (by omega)
      obtain ⟨f0, f1, hx⟩ := partsKV m[j]
      obtain ⟨c0, c1⟩ := cellsKV hx (hcell j hjL)
      have d0 := (HB.out.cell (p := ⟨b, off + j * 2, none⟩) (by show b < _; omega)).trans ((HB0.out.cell (p := ⟨b, off + j * 2, none⟩) hb).trans c0)
      have d1 := (HB.out.cell (p := ⟨b, off + j * 2 + 1, none⟩) (by show b < _; omega)).trans ((HB0.out.cell (p := ⟨b, off + j * 2 + 1, none⟩) hb).trans c1)
      have HD := hide (show m.drop j = (f0, f1) :: m.drop (j + 1) by rw [List.drop_eq_getElem_cons hjL, hx])
      have HCEL := hide (show ∀ W, Below (w.heap.size + 1) W0 W → W.cell? ⟨b, off + j * 2, none⟩ = some (.string f0) ∧ W.cell? ⟨b, off + j * 2 + 1, none⟩ = some (.string f1) from fun W h =>
        ⟨(h.cell (p := ⟨b, off + j * 2, none⟩) (by show b < _; omega)).trans ((HB0.out.cell (p := ⟨b, off + j * 2, none⟩) hb).trans c0), (h.cell (p := ⟨b, off + j * 2 + 1, none⟩) (by show b < _; omega)).trans ((HB0.out.cell (p := ⟨b, off + j * 2 + 1, none⟩) hb).trans c1)⟩)
      have HBOX := hide (show ∀ W, Below (w.heap.size + 1) W0 W → W.cell? ⟨w.heap.size, 0, none⟩ = some (.string k) ∧ W.cell? ⟨w.heap.size, 1, none⟩ = some (.bool d) ∧ W.cell? ⟨w.heap.size, 2, none⟩ = some (.string v) from fun W h => (HBX.out.below h (by omega)).three)
      clear hcell c0 c1 hx hjL
      rw [HD.out, scanP] at HXR
      cases q with
      | true =>
        by_cases he : f0 = k
        · skip
          have HX2 := hide (show X = (pre) ++ scanP k v true (m.drop (j + 1)) by
            rw [HXR.out]
            simp only []
            rw [if_neg (by simp), if_pos he, show (true || !(kless f0 k)) = true by simp]
            simp)
          clear HXR
          have z2 : (!(f0.toList == k.toList)) = false := by rw [he, keq_self]; rfl
          clear he
          go_wp2_with fail
          go_quiet (fail)
          obtain ⟨W1, hW1⟩ : ∃ W1, W1 = wr.drewN nq := ⟨_, rfl⟩
          have HO1 := hide (show elKV.Owns (w.heap.size + 1) W1 (.slice a' y c') pre from hW1 ▸ HO.out)
          have HB1' := hide (show Below (w.heap.size + 1) W0 W1 from hW1 ▸ ⟨HB.out.os, HB.out.tape, HB.out.output, HB.out.size, HB.out.block⟩)
          rw [← hW1]
          clear hW1 b0 b1 b2 d0 d1
          obtain ⟨b0, b1, b2⟩ := HBOX.out _ HB1'.out
          obtain ⟨d0, d1⟩ := HCEL.out _ HB1'.out
          go_wp2_with fail
          go_quiet (fail)
          go_wp2_with fail
          go_roundw
          case rel => exact ⟨j + 1, y, a', c', true, _, rfl, rfl, by go_num, by omega, hpre, by omega, HX2, HO1, ⟨HB1'.out.os, HB1'.out.tape, HB1'.out.output, HB1'.out.size, HB1'.out.block⟩⟩
          case measure => simp [intOf]; omega
        · skip
          have HX2 := hide (show X = ((pre) ++ [(f0, f1)]) ++ scanP k v true (m.drop (j + 1)) by
            rw [HXR.out]
            simp only []
            rw [if_neg (by simp), if_neg he, show (true || !(kless f0 k)) = true by simp]
            simp)
          clear HXR
          have z2 : (!(f0.toList == k.toList)) = true := by rw [keq_false he]; rfl
          clear he
          go_wp2_with fail
          go_quiet (fail)
          obtain ⟨W1, hW1⟩ : ∃ W1, W1 = wr.drewN nq := ⟨_, rfl⟩
          have HO1 := hide (show elKV.Owns (w.heap.size + 1) W1 (.slice a' y c') pre from hW1 ▸ HO.out)
          have HB1' := hide (show Below (w.heap.size + 1) W0 W1 from hW1 ▸ ⟨HB.out.os, HB.out.tape, HB.out.output, HB.out.size, HB.out.block⟩)
          rw [← hW1]
          clear hW1 b0 b1 b2 d0 d1
          obtain ⟨b0, b1, b2⟩ := HBOX.out _ HB1'.out
          obtain ⟨d0, d1⟩ := HCEL.out _ HB1'.out
          go_wp2_with fail
          go_quiet (fail)
          have HOa := hide ((show elKV.Owns (w.heap.size + 1) (W1.drewN nq) _ _ from HO1.out).alloc (.cells #[.string f0, .string f1] 56))
          have HSa : Hid (elKV.Rd ((W1.drewN nq).alloc (.cells #[.string f0, .string f1] 56)) ((W1.drewN nq).alloc (.cells #[.string f0, .string f1] 56)).heap.size (some ⟨(W1.drewN nq).heap.size, 0, none⟩) [(f0, f1)]) := El.Holds.rd (El.Holds.new (e := elKV) (W1.drewN nq) [(f0, f1)])
          have HBa := hide ((show Below (w.heap.size + 1) W0 (W1.drewN nq) from ⟨HB1'.out.os, HB1'.out.tape, HB1'.out.output, HB1'.out.size, HB1'.out.block⟩).alloc (by have := HB1'.out.size; show _ ≤ (W1.drewN nq).heap.size; (try simp only [World.heap_drewN]); omega) (.cells #[.string f0, .string f1] 56))
          have hBa : w.heap.size + 1 ≤ ((W1.drewN nq).alloc (.cells #[.string f0, .string f1] 56)).heap.size := by have := HBa.out.size; omega
          have hjl : (pre ++ [((f0, f1) : KV)]).length = y + 1 := by rw [List.length_append, hpre]; rfl
          go_wp2_with (at_builtin; refine El.append rfl (.tmp 45) (.tmp 50) 24 rfl Try.underlying24 _ _ infoKV rfl (by decide) (by decide) (w.heap.size + 1) W0 _ _ (some ⟨_, 0, none⟩) 1 1 (pre) [(f0, f1)] rfl rfl rfl (fun h => by cases h) HOa HSa (fun p hp => ⟨_, _, (Option.some.inj hp).symm⟩) HBa hBa _ (y + 1) rfl hjl (by omega) ?_; intro ta tc t HTO HTB HTG HTz)
          clear HOa HSa HBa hBa HTG HTz
          go_wp2_with fail
          go_roundw
          case rel => exact ⟨j + 1, y + 1, ta, tc, true, _, rfl, rfl, by go_num, by omega, hjl, by omega, HX2, HTO, HTB⟩
          case measure => simp [intOf]; omega
      | false =>
        by_cases hc : kless f0 k = true
        · have he : ¬ f0 = k := kless_ne hc
          have HX2 := hide (show X = ((pre) ++ [(f0, f1)]) ++ scanP k v false (m.drop (j + 1)) by
            rw [HXR.out]
            simp only []
            rw [if_neg (by rw [hc]; simp), if_neg he, show (false || !(kless f0 k)) = false by rw [hc]; rfl]
            simp)
          clear HXR
          have z1 : Op.bytesLess f0.toList k.toList = true := hc
          have z2 : (!(f0.toList == k.toList)) = true := by rw [keq_false he]; rfl
          clear he hc
          go_wp2_with fail
          go_quiet (fail)
          obtain ⟨W1, hW1⟩ : ∃ W1, W1 = wr.drewN nq := ⟨_, rfl⟩
          have HO1 := hide (show elKV.Owns (w.heap.size + 1) W1 (.slice a' y c') pre from hW1 ▸ HO.out)
          have HB1' := hide (show Below (w.heap.size + 1) W0 W1 from hW1 ▸ ⟨HB.out.os, HB.out.tape, HB.out.output, HB.out.size, HB.out.block⟩)
          rw [← hW1]
          clear hW1 b0 b1 b2 d0 d1
          obtain ⟨b0, b1, b2⟩ := HBOX.out _ HB1'.out
          obtain ⟨d0, d1⟩ := HCEL.out _ HB1'.out
          go_wp2_with fail
          go_quiet (fail)
          have HOa := hide ((show elKV.Owns (w.heap.size + 1) (W1.drewN nq) _ _ from HO1.out).alloc (.cells #[.string f0, .string f1] 56))
          have HSa : Hid (elKV.Rd ((W1.drewN nq).alloc (.cells #[.string f0, .string f1] 56)) ((W1.drewN nq).alloc (.cells #[.string f0, .string f1] 56)).heap.size (some ⟨(W1.drewN nq).heap.size, 0, none⟩) [(f0, f1)]) := El.Holds.rd (El.Holds.new (e := elKV) (W1.drewN nq) [(f0, f1)])
          have HBa := hide ((show Below (w.heap.size + 1) W0 (W1.drewN nq) from ⟨HB1'.out.os, HB1'.out.tape, HB1'.out.output, HB1'.out.size, HB1'.out.block⟩).alloc (by have := HB1'.out.size; show _ ≤ (W1.drewN nq).heap.size; (try simp only [World.heap_drewN]); omega) (.cells #[.string f0, .string f1] 56))
          have hBa : w.heap.size + 1 ≤ ((W1.drewN nq).alloc (.cells #[.string f0, .string f1] 56)).heap.size := by have := HBa.out.size; omega
          have hjl : (pre ++ [((f0, f1) : KV)]).length = y + 1 := by rw [List.length_append, hpre]; rfl
          go_wp2_with (at_builtin; refine El.append rfl (.tmp 45) (.tmp 50) 24 rfl Try.underlying24 _ _ infoKV rfl (by decide) (by decide) (w.heap.size + 1) W0 _ _ (some ⟨_, 0, none⟩) 1 1 (pre) [(f0, f1)] rfl rfl rfl (fun h => by cases h) HOa HSa (fun p hp => ⟨_, _, (Option.some.inj hp).symm⟩) HBa hBa _ (y + 1) rfl hjl (by omega) ?_; intro ta tc t HTO HTB HTG HTz)
          clear HOa HSa HBa hBa HTG HTz
          go_wp2_with fail
          go_roundw
          case rel => exact ⟨j + 1, y + 1, ta, tc, false, _, rfl, rfl, by go_num, by omega, hjl, by omega, HX2, HTO, HTB⟩
          case measure => simp [intOf]; omega
        · have hc : kless f0 k = false := by
            cases h : kless f0 k with
            | false => rfl
            | true => exact absurd h hc
          by_cases he : f0 = k
          · skip
            have HX2 := hide (show X = (pre ++ [(k, v)]) ++ scanP k v true (m.drop (j + 1)) by
              rw [HXR.out]
              simp only []
              rw [if_pos (by first | exact ⟨rfl, hc⟩ | exact ⟨trivial, hc⟩), if_pos he, show (false || !(kless f0 k)) = true by rw [hc]; rfl]
              simp)
            clear HXR
            have z1 : Op.bytesLess f0.toList k.toList = false := hc
            have z2 : (!(f0.toList == k.toList)) = false := by rw [he, keq_self]; rfl
            clear he hc
            go_wp2_with fail
            go_quiet (fail)
            have HOa := hide ((show elKV.Owns (w.heap.size + 1) (wr.drewN nq) _ _ from HO.out).alloc (.cells #[.string k, .string v] 56))
            have HSa : Hid (elKV.Rd ((wr.drewN nq).alloc (.cells #[.string k, .string v] 56)) ((wr.drewN nq).alloc (.cells #[.string k, .string v] 56)).heap.size (some ⟨(wr.drewN nq).heap.size, 0, none⟩) [(k, v)]) := El.Holds.rd (El.Holds.new (e := elKV) (wr.drewN nq) [(k, v)])
            have HBa := hide ((show Below (w.heap.size + 1) W0 (wr.drewN nq) from ⟨HB.out.os, HB.out.tape, HB.out.output, HB.out.size, HB.out.block⟩).alloc (by have := HB.out.size; show _ ≤ (wr.drewN nq).heap.size; (try simp only [World.heap_drewN]); omega) (.cells #[.string k, .string v] 56))
            have hBa : w.heap.size + 1 ≤ ((wr.drewN nq).alloc (.cells #[.string k, .string v] 56)).heap.size := by have := HBa.out.size; omega
            have hjl : (pre ++ [((k, v) : KV)]).length = y + 1 := by rw [List.length_append, hpre]; rfl
            go_wp2_with (at_builtin; refine El.append rfl (.tmp 29) (.tmp 35) 24 rfl Try.underlying24 _ _ infoKV rfl (by decide) (by decide) (w.heap.size + 1) W0 _ _ (some ⟨_, 0, none⟩) 1 1 (pre) [(k, v)] rfl rfl rfl (fun h => by cases h) HOa HSa (fun p hp => ⟨_, _, (Option.some.inj hp).symm⟩) HBa hBa _ (y + 1) rfl hjl (by omega) ?_; intro ua uc u HUO HUB HUG HUz)
            clear HOa HSa HBa hBa HUG HUz
            clear b0 b1 b2 d0 d1
            obtain ⟨b0, b1, b2⟩ := HBOX.out _ HUB.out
            obtain ⟨d0, d1⟩ := HCEL.out _ HUB.out
            have hlj : (pre ++ [((k, v) : KV)]).length = y + 1 := hjl
            clear hjl
            go_wp2_with fail
            go_quiet (fail)
            go_wp2_with fail
            go_roundw
            case rel => exact ⟨j + 1, y + 1, ua, uc, true, _, rfl, rfl, by go_num, by omega, hlj, by omega, HX2, HUO, ⟨HUB.out.os, HUB.out.tape, HUB.out.output, HUB.out.size, HUB.out.block⟩⟩
            case measure => simp [intOf]; omega
          · skip
            have HX2 := hide (show X = ((pre ++ [(k, v)]) ++ [(f0, f1)]) ++ scanP k v true (m.drop (j + 1)) by
              rw [HXR.out]
              simp only []
              rw [if_pos (by first | exact ⟨rfl, hc⟩ | exact ⟨trivial, hc⟩), if_neg he, show (false || !(kless f0 k)) = true by rw [hc]; rfl]
              simp)
            clear HXR
            have z1 : Op.bytesLess f0.toList k.toList = false := hc
            have z2 : (!(f0.toList == k.toList)) = true := by rw [keq_false he]; rfl
            clear he hc
            go_wp2_with fail
            go_quiet (fail)
            have HOa := hide ((show elKV.Owns (w.heap.size + 1) (wr.drewN nq) _ _ from HO.out).alloc (.cells #[.string k, .string v] 56))
            have HSa : Hid (elKV.Rd ((wr.drewN nq).alloc (.cells #[.string k, .string v] 56)) ((wr.drewN nq).alloc (.cells #[.string k, .string v] 56)).heap.size (some ⟨(wr.drewN nq).heap.size, 0, none⟩) [(k, v)]) := El.Holds.rd (El.Holds.new (e := elKV) (wr.drewN nq) [(k, v)])
            have HBa := hide ((show Below (w.heap.size + 1) W0 (wr.drewN nq) from ⟨HB.out.os, HB.out.tape, HB.out.output, HB.out.size, HB.out.block⟩).alloc (by have := HB.out.size; show _ ≤ (wr.drewN nq).heap.size; (try simp only [World.heap_drewN]); omega) (.cells #[.string k, .string v] 56))
            have hBa : w.heap.size + 1 ≤ ((wr.drewN nq).alloc (.cells #[.string k, .string v] 56)).heap.size := by have := HBa.out.size; omega
            have hjl : (pre ++ [((k, v) : KV)]).length = y + 1 := by rw [List.length_append, hpre]; rfl
            go_wp2_with (at_builtin; refine El.append rfl (.tmp 29) (.tmp 35) 24 rfl Try.underlying24 _ _ infoKV rfl (by decide) (by decide) (w.heap.size + 1) W0 _ _ (some ⟨_, 0, none⟩) 1 1 (pre) [(k, v)] rfl rfl rfl (fun h => by cases h) HOa HSa (fun p hp => ⟨_, _, (Option.some.inj hp).symm⟩) HBa hBa _ (y + 1) rfl hjl (by omega) ?_; intro ua uc u HUO HUB HUG HUz)
            clear HOa HSa HBa hBa HUG HUz
            clear b0 b1 b2 d0 d1
            obtain ⟨b0, b1, b2⟩ := HBOX.out _ HUB.out
            obtain ⟨d0, d1⟩ := HCEL.out _ HUB.out
            have hlj : (pre ++ [((k, v) : KV)]).length = y + 1 := hjl
            clear hjl
            go_wp2_with fail
            go_quiet (fail)
            have HOa := hide ((show elKV.Owns (w.heap.size + 1) (u.drewN nq) _ _ from HUO.out).alloc (.cells #[.string f0, .string f1] 56))
            have HSa : Hid (elKV.Rd ((u.drewN nq).alloc (.cells #[.string f0, .string f1] 56)) ((u.drewN nq).alloc (.cells #[.string f0, .string f1] 56)).heap.size (some ⟨(u.drewN nq).heap.size, 0, none⟩) [(f0, f1)]) := El.Holds.rd (El.Holds.new (e := elKV) (u.drewN nq) [(f0, f1)])
            have HBa := hide ((show Below (w.heap.size + 1) W0 (u.drewN nq) from ⟨HUB.out.os, HUB.out.tape, HUB.out.output, HUB.out.size, HUB.out.block⟩).alloc (by have := HUB.out.size; show _ ≤ (u.drewN nq).heap.size; (try simp only [World.heap_drewN]); omega) (.cells #[.string f0, .string f1] 56))
            have hBa : w.heap.size + 1 ≤ ((u.drewN nq).alloc (.cells #[.string f0, .string f1] 56)).heap.size := by have := HBa.out.size; omega
            have hjl : (pre ++ [(k, v)] ++ [((f0, f1) : KV)]).length = y + 1 + 1 := by rw [List.length_append, hlj]; rfl
            go_wp2_with (at_builtin; refine El.append rfl (.tmp 45) (.tmp 50) 24 rfl Try.underlying24 _ _ infoKV rfl (by decide) (by decide) (w.heap.size + 1) W0 _ _ (some ⟨_, 0, none⟩) 1 1 (pre ++ [(k, v)]) [(f0, f1)] rfl rfl rfl (fun h => by cases h) HOa HSa (fun p hp => ⟨_, _, (Option.some.inj hp).symm⟩) HBa hBa _ (y + 1 + 1) rfl hjl (by omega) ?_; intro ta tc t HTO HTB HTG HTz)
            clear HOa HSa HBa hBa HTG HTz
            go_wp2_with fail
            go_roundw
            case rel => exact ⟨j + 1, y + 1 + 1, ta, tc, true, _, rfl, rfl, by go_num, by omega, hjl, by omega, HX2, HTO, HTB⟩
            case measure => simp [intOf]; omega
    · have hdr : m.drop j = [] := List.drop_of_length_le (by rw [← HN.out]; omega)
      rw [hdr] at HXR
      cases q with
      | true =>
        have HX2 := hide (show X = pre by rw [HXR.out, scanP, if_pos rfl, List.append_nil])
        go_wp2_with fail
        go_ret
        exact ⟨_, rfl, by rw [HX2.out]; exact HO.out.mono (by omega), HB0.out.trans (HB.out.mono (by omega))⟩
      | false =>
        have HX2 := hide (show X = pre ++ [(k, v)] by rw [HXR.out, scanP, if_neg (by simp)])
        have HOa := hide ((show elKV.Owns (w.heap.size + 1) (wr) _ _ from HO.out).alloc (.cells #[.string k, .string v] 56))
        have HSa : Hid (elKV.Rd ((wr).alloc (.cells #[.string k, .string v] 56)) ((wr).alloc (.cells #[.string k, .string v] 56)).heap.size (some ⟨(wr).heap.size, 0, none⟩) [(k, v)]) := El.Holds.rd (El.Holds.new (e := elKV) (wr) [(k, v)])
        have HBa := hide ((show Below (w.heap.size + 1) W0 (wr) from ⟨HB.out.os, HB.out.tape, HB.out.output, HB.out.size, HB.out.block⟩).alloc (by have := HB.out.size; show _ ≤ (wr).heap.size; (try simp only [World.heap_drewN]); omega) (.cells #[.string k, .string v] 56))
        have hBa : w.heap.size + 1 ≤ ((wr).alloc (.cells #[.string k, .string v] 56)).heap.size := by have := HBa.out.size; omega
        have hjl : (pre ++ [((k, v) : KV)]).length = y + 1 := by rw [List.length_append, hpre]; rfl
        go_wp2_with (at_builtin; refine El.append rfl (.tmp 54) (.tmp 60) 24 rfl Try.underlying24 _ _ infoKV rfl (by decide) (by decide) (w.heap.size + 1) W0 _ _ (some ⟨_, 0, none⟩) 1 1 (pre) [(k, v)] rfl rfl rfl (fun h => by cases h) HOa HSa (fun p hp => ⟨_, _, (Option.some.inj hp).symm⟩) HBa hBa _ (y + 1) rfl hjl (by omega) ?_; intro ua uc u HUO HUB HUG HUz)
        clear HOa HSa HBa hBa HUG HUz
        go_wp2_with fail
        go_ret
        exact ⟨_, rfl, by rw [HX2.out]; exact HUO.out.mono (by omega), HB0.out.trans (HUB.out.mono (by omega))⟩
end Go.Proofs.Ytmdhihgfnlnbnaa

/-
  Contract of spec.ApplyBatch.
-/
namespace Go.Proofs.Ytmdhihgfnlnbnaa
open Go.ChangeShapes Go.WideShapes Go.ChangeAt Go.RowKit

theorem scan_putO {M : List KV} (hs : Srt M) (k v : ByteArray) (d : Bool) : scanP k v d M = putO M (k, d, v) := by
  cases d with
  | true => exact (scanP_del k v M hs).trans (if_pos rfl).symm
  | false => exact (scanP_put k v M hs).trans (if_neg (by simp)).symm
set_option maxHeartbeats 2000000 in
set_option maxRecDepth 20000 in
theorem sApply_any (a a' : Option Addr) (cap cap' : Nat) (m : List KV) (l : List Opn) (w : World) (hr : elKV.Rd w w.heap.size a m) (ha : Plain a m.length cap) (hr' : elOp.Rd w w.heap.size a' l) (hl : m.length ≤ 900000) (hl' : l.length ≤ 900000) :
    Calls Try.prog 11 #[.slice a m.length cap, .slice a' l.length cap'] w (ApplyPost w (applyM m l) (applyB m l)) := by
  have HR := hide hr
  have HR' := hide hr'
  have HBO := hide (fun W (h : elOp.Rd W W.heap.size a' l) => sBatchOk_any a' cap' l W h (by omega))
  have HMO := hide (fun W (h : elKV.Rd W W.heap.size a m) => sMapOk_any a cap m W h (by omega))
  obtain ⟨n, hn⟩ : ∃ n, n = m.length := ⟨_, rfl⟩
  obtain ⟨k, hk⟩ : ∃ k, k = l.length := ⟨_, rfl⟩
  have HN := hide hn
  have HK := hide hk
  rw [← hn] at HMO hl ha ⊢
  rw [← hk] at HBO hl' ⊢
  have HA := hide ha
  clear hn hk hr hr' ha
  by_cases hm : mapOk m
  · rw [decide_eq_true hm] at HMO
    go_enter Try.func11, Try.ntmps11
    go_wp2_with fail
    refine (HMO.out _ HR.out).mono ?_
    rintro e w1 ⟨rfl, hb1⟩
    have HB1 := hide hb1
    have hs1 := hb1.size
    have HO1 := hide (litKV w.heap.size w1 hs1)
    have HBl := hide (hb1.alloc hs1 (.cells #[] 56))
    have HRl := hide ((HR.out.below HBl.out (Nat.le_refl _)).mono HBl.out.size)
    have hBl : w.heap.size ≤ (w1.alloc (.cells #[] 56)).heap.size := HBl.out.size
    clear hb1 HMO
    go_wp2_with (at_builtin; refine El.append rfl (.tmp 12) (.tmp 13) 24 rfl Try.underlying24 _ _ infoKV rfl (by decide) (by decide) w.heap.size w _ _ a n cap [] m rfl rfl HN.out.symm HA.out.2 HO1 HRl HA.out.1 HBl hBl m n rfl HN.out.symm (by omega) ?_; intro a5 c5 w5 HO5 HB5 HG5 hz5)
    clear HO1 HBl HRl hBl HG5
    have hs5 := HB5.out.size
    refine (HBO.out _ ((HR'.out.below HB5.out (Nat.le_refl _)).mono HB5.out.size)).mono ?_
    rintro e w6 ⟨rfl, hb6⟩
    have HB6 := hide (HB5.out.trans (hb6.mono hs5))
    have HO6 := hide (HO5.out.below hb6 (Nat.le_refl _))
    clear hb6 HB5 HO5 HBO
    by_cases hb : batOk l
    · rw [decide_eq_true hb]
      have HEM := hide (show applyM m l = applyL m l by rw [applyM, if_pos hm, if_pos hb])
      have HEB := hide (show applyB m l = true from decide_eq_true ⟨hm, hb⟩)
      have HM := hide hm
      have HBt := hide hb
      have HLP := hide (fun (M : List KV) a c W (h : elKV.Rd W W.heap.size a M) (hl : M.length ≤ 1000000) f0 f2 f1 => l7Put_any a c M f0 f2 f1 W h hl)
      clear hm hb
      go_wp2_with fail
      go_loopw [6, 7] (fun o i wr => ∃ (j y : Nat) (a' : Option Addr) (c' : Nat), o = .slice a' y c' ∧ i = .int .i64 j ∧ j ≤ k ∧ Hid ((applyL m (l.take j)).length = y) ∧ Hid (elKV.Owns w.heap.size wr (.slice a' y c') (applyL m (l.take j))) ∧ Hid (Below w.heap.size w wr)) (fun _ i _ => k - (intOf i).toNat)
      case atStart => exact ⟨0, n, _, _, rfl, rfl, by omega, HN.out.symm, HO6, HB6⟩
      case round =>
        obtain ⟨j, y, ao, co, rfl, rfl, hj, HY, HOJ, HBJ⟩ := hrel
        have hsj := HBJ.out.size
        by_cases hlt : j < k
        · have hjL : j < l.length := by rw [← HK.out]; exact hlt
          obtain ⟨b, off, rfl, hb, hcell⟩ := HR'.out (by omega)
          obtain ⟨f0, f1, f2, hx⟩ := partsOp l[j]
          obtain ⟨c0, c1, c2⟩ := cellsOp hx (hcell j hjL)
          have d0 := (HBJ.out.cell (p := ⟨b, off + j * 3, none⟩) hb).trans c0
          have d1 := (HBJ.out.cell (p := ⟨b, off + j * 3 + 1, none⟩) hb).trans c1
          have d2 := (HBJ.out.cell (p := ⟨b, off + j * 3 + 2, none⟩) hb).trans c2
          have HX := hide (show l[j]? = some (f0, f1, f2) by rw [List.getElem?_eq_getElem hjL, hx])
          have HE := hide (show scanP f0 f2 f1 (applyL m (l.take j)) = applyL m (l.take (j + 1)) by
            rw [applyL_next HX.out]
            exact scan_putO (mapOk_applyL _ _ HM.out (fun o ho => HBt.out.2.2 o (List.mem_of_mem_take ho))).2 f0 f2 f1)
          have hln : (applyL m (l.take j)).length ≤ 1000000 := by
            have h1 := length_applyL (l.take j) m
            rw [List.length_take] at h1
            have h2 := HN.out
            have h3 := HBt.out.2.1
            omega
          obtain ⟨ar, cr, er, hrd, _⟩ := HOJ.out.form
          rw [HY.out] at er
          injection er with e1 e2 e3
          subst e1 e3
          have HC := hide (HLP.out (applyL m (l.take j)) ao co wr hrd hln f0 f2 f1)
          rw [HE.out, HY.out] at HC
          clear hcell c0 c1 c2 hx hjL HX HE hrd hln e2
          go_wp2_with fail
          refine HC.out.mono ?_
          rintro e w7 ⟨v7, rfl, ho7, hb7⟩
          have HB7 := hide (HBJ.out.trans (hb7.mono hsj))
          have HO7 := hide (ho7.mono hsj)
          obtain ⟨a7, k7, rfl, _⟩ := ho7.form
          obtain ⟨y7, hy7⟩ : ∃ y7, (applyL m (l.take (j + 1))).length = y7 := ⟨_, rfl⟩
          have HY7 := hide hy7
          rw [hy7] at HO7 ⊢
          clear ho7 hb7 HC hy7 HOJ HBJ
          go_wp2_with fail
          go_roundw
          case rel => exact ⟨j + 1, y7, a7, k7, rfl, by go_num, by omega, HY7, HO7, HB7⟩
          case measure => simp [intOf]; omega
        · have HOE := hide (show elKV.Owns w.heap.size wr (.slice ao y co) (applyL m l) by
            have := HOJ.out
            rwa [List.take_of_length_le (by rw [← HK.out]; omega)] at this)
          go_wp2_with fail
          go_ret2
          exact ⟨_, by rw [HEB.out]; rfl, by rw [HEM.out]; exact HOE.out, HBJ.out⟩
    · rw [decide_eq_false hb]
      have HEM := hide (show applyM m l = m by rw [applyM, if_pos hm, if_neg hb])
      have HEB := hide (show applyB m l = false from decide_eq_false (fun h => hb h.2))
      clear hm hb
      go_wp2_with fail
      go_ret2
      exact ⟨_, by rw [HEB.out]; rfl, by rw [HEM.out]; exact HO6.out, HB6.out⟩
  · rw [decide_eq_false hm] at HMO
    rw [show applyM m l = [] by rw [applyM, if_neg hm], show applyB m l = false from decide_eq_false (fun h => hm h.1)]
    clear hm HBO
    go_enter Try.func11, Try.ntmps11
    go_wp2_with fail
    refine (HMO.out _ HR.out).mono ?_
    rintro e w1 ⟨rfl, hb1⟩
    have HB1 := hide hb1
    have hs1 := hb1.size
    clear hb1
    go_wp2_with fail
    go_ret2
    exact ⟨_, rfl, litKV _ _ hs1, HB1.out.alloc hs1 _⟩
end Go.Proofs.Ytmdhihgfnlnbnaa

/-
  Contracts of spec.l7Map, DrawApplyBatch, DrawShowBatch, DrawReadBatch: what the law needs of them.
-/
namespace Go.Proofs.Ytmdhihgfnlnbnaa
open Go.ChangeShapes Go.WideShapes Go.ChangeAt Go.RowKit

def MapDrawn (B g : Nat) (a : Option Addr) (cap : Nat) (bs : List Int) (w : World) (e : Ending) (w' : World) : Prop :=
  ∃ v m, e = .returned v ∧ elKV.Owns w.heap.size w' v m ∧ m.length ≤ 40 ∧ CurS B g a cap bs w' ∧ Turned g w w'
theorem length_applyM (m : List KV) (l : List Opn) : (applyM m l).length ≤ m.length + l.length := by
  unfold applyM
  split
  · split
    · exact length_applyL l m
    · omega
  · simp
set_option maxHeartbeats 4000000 in
set_option maxRecDepth 20000 in
theorem l7Map_some {B g : Nat} {a : Option Addr} {cap : Nat} {bs : List Int} {w : World} (h : CurS B g a cap bs w) :
    Calls Try.prog 33 #[.pointer (some ⟨g, 0, none⟩)] w (MapDrawn B g a cap bs w) := by
  have hgw := h.lt
  have hb0 := (Below.refl w.heap.size w).alloc (Nat.le_refl _) (.cells #[] 56)
  have HL0 := hide (litKV w.heap.size w (Nat.le_refl _))
  have HC0 := hide (h.keep (hb0.mono (Nat.succ_le_of_lt hgw)))
  have HT0 := hide (Turned.of_below (g := g) hb0 (Nat.le_refl _))
  clear h hb0
  go_enter Try.func33, Try.ntmps33
  go_wp2_with fail
  refine (below_some 5 (by omega) (by omega) HC0.out).mono ?_
  rintro e w0 ⟨x0, hx0, rfl, hc0, ht0⟩
  have HO1 := hide (HL0.out.turned ht0 hgw)
  have HT1 := hide (HT0.out.trans ht0)
  have HC1 := hide hc0
  clear hc0 ht0 HL0 HT0 HC0
  go_wp2_with fail
  go_loopw [3, 4] (fun o i wr => ∃ (N y : Nat) (a' : Option Addr) (c' : Nat) (m : List KV), o = .slice a' y c' ∧ i = .int .i64 N ∧ N ≤ 4 ∧ y + 8 * N ≤ 40 ∧ Hid (m.length = y) ∧ Hid (elKV.Owns w.heap.size wr (.slice a' y c') m) ∧ Hid (CurS B g a cap bs wr) ∧ Hid (Turned g w wr)) (fun _ i _ => (intOf i).toNat)
  case atStart => exact ⟨x0, 0, _, _, [], rfl, rfl, by omega, by omega, rfl, HO1, HC1, HT1⟩
  case round =>
    obtain ⟨N, y, a', c', m, rfl, rfl, hN, hyN, HP, HO, HC, HT⟩ := hrel
    have hsz := HT.out.size
    by_cases h0 : 0 < N
    · obtain ⟨M, rfl⟩ : ∃ M, N = M + 1 := ⟨N - 1, by omega⟩
      go_wp2_with fail
      refine (l7Batch_some HC.out).mono ?_
      rintro e w1 ⟨v1, l, rfl, ho1, hl1, hc1, ht1⟩
      have HO1 := hide (HO.out.turned ht1 hgw)
      have HT1 := hide (HT.out.trans ht1)
      have HC1 := hide hc1
      obtain ⟨al, cl, rfl, hrl, _⟩ := ho1.form
      obtain ⟨am, cm, em, hrm, _⟩ := HO1.out.form
      rw [HP.out] at em
      injection em with e1 e2 e3
      subst e1 e3
      have hpl := HO1.out.plain
      have HAP := hide (sApply_any a' al c' cl m l w1 hrm (by rw [HP.out]; exact hpl) hrl (by have := HP.out; omega) (by omega))
      have hll : (applyM m l).length ≤ y + 8 := by have := length_applyM m l; have := HP.out; omega
      rw [HP.out] at HAP
      have hs1 := HT1.out.size
      clear hc1 ht1 ho1 hrl hrm e2 hpl
      go_wp2_with fail
      refine HAP.out.mono ?_
      rintro e w2 ⟨v2, rfl, ho2, hb2⟩
      have HO2 := hide (HO1.out.below hb2 (Nat.le_refl _))
      have HT2 := hide (HT1.out.then_below hb2 hs1)
      have HC2 := hide (HC1.out.keep (hb2.mono HC1.out.lt))
      have HV2 := hide (ho2.mono hs1)
      obtain ⟨a2, c2, rfl, _⟩ := ho2.form
      obtain ⟨y2, hy2⟩ : ∃ y2, (applyM m l).length = y2 := ⟨_, rfl⟩
      have HP2 := hide hy2
      rw [hy2] at HV2 hll ⊢
      clear ho2 hb2 hy2 HAP HO1 HT1 HC1
      cases applyB m l with
      | true =>
        go_wp2_with fail
        go_roundw
        case rel => exact ⟨M, y2, a2, c2, _, rfl, by go_num, by omega, by omega, HP2, HV2, HC2, HT2⟩
        case measure => simp [intOf]
      | false =>
        go_wp2_with fail
        go_roundw
        case rel => exact ⟨M, y, a', c', _, rfl, by go_num, by omega, by omega, HP, HO2, HC2, HT2⟩
        case measure => simp [intOf]
    · obtain rfl : N = 0 := by omega
      by_cases hy : 0 < y
      · go_wp2_with fail
        refine (once_some 12 (by omega) HC.out).mono ?_
        rintro e w1 ⟨b, rfl, hc1, ht1⟩
        have HO1 := hide (HO.out.turned ht1 hgw)
        have HT1 := hide (HT.out.trans ht1)
        have HC1 := hide hc1
        clear hc1 ht1
        cases b with
        | false =>
          go_wp2_with fail
          go_ret
          exact ⟨_, _, rfl, HO1.out, by have := HP.out; omega, HC1.out, HT1.out⟩
        | true =>
          go_wp2_with fail
          refine (pick_new 3 _ [⟨#[]⟩, ⟨#[122, 122, 122]⟩, ⟨#[97, 97, 97, 97, 97, 97, 97, 97, 97, 97, 97]⟩] rfl (by omega) (by omega) rfl HC1.out).mono ?_
          rintro e w4 ⟨s4, _, rfl, hc4, ht4⟩
          have HO4 := hide (HO1.out.turned ht4 hgw)
          have HT4 := hide (HT1.out.trans ht4)
          have HC4 := hide hc4
          clear hc4 ht4
          obtain ⟨gr, rfl, hgr, hgz⟩ := HO4.out.pos (by have := HP.out; omega)
          obtain ⟨f0, f1, hx⟩ := partsKV (m[0]'(by have := HP.out; omega))
          have HQ := hide (show m[0]? = some (f0, f1) by rw [List.getElem?_eq_getElem (by have := HP.out; omega), hx])
          obtain ⟨c0, c1⟩ := cellsXKV (o := 0 * 2) (HO4.out.cellsAt HP.out 0 _ HQ.out)
          rw [Nat.zero_mul] at c0 c1
          have z0 := HO4.out.frozenAt HP.out 0
          have HO5 := hide (HO4.out.setAt HP.out 0 _ HQ.out 0 (by decide) (.string s4) (s4, f1) rfl)
          rw [Nat.zero_mul, Nat.zero_add] at HO5
          have HT5 := hide (HT4.out.then_below ((Below.refl w.heap.size w4).setCell (p := ⟨gr, 0, none⟩) hgr (.string s4)) (Nat.le_refl _))
          have HC5 := hide (HC4.out.keep ((Below.refl (g + 1) w4).setCell (p := ⟨gr, 0, none⟩) (by show g + 1 ≤ gr; omega) (.string s4)))
          clear hx
          go_wp2_with fail
          go_ret
          exact ⟨_, _, rfl, HO5.out, by rw [List.length_set]; have := HP.out; omega, HC5.out, HT5.out⟩
      · obtain rfl : y = 0 := by omega
        go_wp2_with fail
        go_ret
        exact ⟨_, _, rfl, HO.out, by have := HP.out; omega, HC.out, HT.out⟩
end Go.Proofs.Ytmdhihgfnlnbnaa

/-
  Contracts of spec.DrawApplyBatch, DrawShowBatch and DrawReadBatch: what the law needs of them.
-/
namespace Go.Proofs.Ytmdhihgfnlnbnaa
open Go.ChangeShapes Go.WideShapes Go.ChangeAt Go.RowKit

def ApplyDrawn (w : World) (e : Ending) (w' : World) : Prop :=
  ∃ v m v' l, e = .returned (.tuple #[v, v']) ∧ elKV.Owns w.heap.size w' v m ∧ m.length ≤ 40 ∧ elOp.Owns w.heap.size w' v' l ∧ l.length ≤ 8 ∧ Below w.heap.size w w'
def ShowDrawn (w : World) (e : Ending) (w' : World) : Prop := ∃ v l, e = .returned v ∧ elOp.Owns w.heap.size w' v l ∧ l.length ≤ 8 ∧ Below w.heap.size w w'
def ReadDrawn (w : World) (e : Ending) (w' : World) : Prop := ∃ s : ByteArray, e = .returned (.string s) ∧ s.size ≤ 1048576 ∧ Below w.heap.size w w'

theorem drawApply_any {B : Nat} (a : Option Addr) (cap : Nat) (bs : List Int) (w : World) (hB : B ≤ w.heap.size) (hc : CodeAt B w a bs) (hm : bs.length ≤ 1048576) :
    Calls Try.prog 9 #[.slice a bs.length cap] w (ApplyDrawn w) := by
  have H := hide hc
  clear hc
  go_enter Try.func9, Try.ntmps9
  go_wp2_with fail
  refine (l1New_any a cap bs w hB H.out hm).mono ?_
  rintro e w1 ⟨rfl, hc1, hb1⟩
  have HC1 := hide (show CurS B w.heap.size a cap bs w1 from ⟨_, hc1⟩)
  have HB1 := hide hb1
  have hs1 := HC1.out.lt
  clear hc1 hb1
  go_wp2_with fail
  refine (l7Map_some HC1.out).mono ?_
  rintro e w2 ⟨v2, m, rfl, ho2, hl2, hc2, ht2⟩
  have HB2 := hide (HB1.out.trans (ht2.below (Nat.le_refl _) HB1.out.size))
  have HO2 := hide ho2
  have HC2 := hide hc2
  obtain ⟨a2, c2, rfl, _⟩ := ho2.form
  obtain ⟨y, hy⟩ : ∃ y, y = m.length := ⟨_, rfl⟩
  rw [← hy] at HO2 ⊢
  have HY := hide hy
  clear ho2 hc2 ht2 hy HB1 HC1
  go_wp2_with fail
  refine (l7Batch_some HC2.out).mono ?_
  rintro e w3 ⟨v3, l, rfl, ho3, hl3, hc3, ht3⟩
  have HB3 := hide (HB2.out.trans (ht3.below (Nat.le_refl _) HB2.out.size))
  have HO3 := hide (ho3.mono HB2.out.size)
  have HM3 := hide ((HO2.out.turned ht3 hs1).mono (Nat.le_of_lt hs1))
  obtain ⟨a3, c3, rfl, _⟩ := ho3.form
  obtain ⟨y3, hy3⟩ : ∃ y3, y3 = l.length := ⟨_, rfl⟩
  rw [← hy3] at HO3 ⊢
  clear ho3 hc3 ht3 hy3
  go_wp2_with fail
  go_ret2
  exact ⟨_, _, _, _, rfl, HM3.out, hl2, HO3.out, hl3, HB3.out⟩

theorem drawShow_any {B : Nat} (a : Option Addr) (cap : Nat) (bs : List Int) (w : World) (hB : B ≤ w.heap.size) (hc : CodeAt B w a bs) (hm : bs.length ≤ 1048576) :
    Calls Try.prog 16 #[.slice a bs.length cap] w (ShowDrawn w) := by
  have H := hide hc
  clear hc
  go_enter Try.func16, Try.ntmps16
  go_wp2_with fail
  refine (l1New_any a cap bs w hB H.out hm).mono ?_
  rintro e w1 ⟨rfl, hc1, hb1⟩
  have HC1 := hide (show CurS B w.heap.size a cap bs w1 from ⟨_, hc1⟩)
  have HB1 := hide hb1
  clear hc1 hb1
  go_wp2_with fail
  refine (l7Batch_some HC1.out).mono ?_
  rintro e w3 ⟨v3, l, rfl, ho3, hl3, hc3, ht3⟩
  have HB3 := hide (HB1.out.trans (ht3.below (Nat.le_refl _) HB1.out.size))
  have HO3 := hide (ho3.mono HB1.out.size)
  obtain ⟨a3, c3, rfl, _⟩ := ho3.form
  obtain ⟨y3, hy3⟩ : ∃ y3, y3 = l.length := ⟨_, rfl⟩
  rw [← hy3] at HO3 ⊢
  clear ho3 hc3 ht3 hy3
  go_wp2_with fail
  go_ret
  exact ⟨_, _, rfl, HO3.out, hl3, HB3.out⟩

theorem showL_len (l : List Opn) : (showL l).length ≤ 400 := by
  unfold showL
  split
  · next h =>
    have hv : (varL l.length).length ≤ 7 := varL_len7 _ (by have := h.2.1; omega)
    have key : ∀ (l : List Opn), (∀ o ∈ l, opOk o) → (opsL l).length ≤ 50 * l.length := by
      intro l
      induction l with
      | nil => intro _; simp [opsL]
      | cons o l ih =>
        intro ho
        have h1 : (opL o).length ≤ 50 := opL_len (k := o.1) (d := o.2.1) (v := o.2.2) (ho o (by simp))
        have h2 := ih (fun x hx => ho x (by simp [hx]))
        rw [opsL_cons, List.length_append, List.length_cons]
        omega
    have h1 := key l h.2.2
    have h2 := h.2.1
    rw [List.length_append]
    omega
  · simp
theorem drawRead_any {B : Nat} (a : Option Addr) (cap : Nat) (bs : List Int) (w : World) (hB : B ≤ w.heap.size) (hc : CodeAt B w a bs) (hm : bs.length ≤ 1048576) :
    Calls Try.prog 19 #[.slice a bs.length cap] w (ReadDrawn w) := by
  have H := hide hc
  clear hc
  go_enter Try.func19, Try.ntmps19
  go_wp2_with fail
  refine (l1New_any a cap bs w hB H.out hm).mono ?_
  rintro e w1 ⟨rfl, hc1, hb1⟩
  have HC1 := hide (show CurS B w.heap.size a cap bs w1 from ⟨_, hc1⟩)
  have HB1 := hide hb1
  clear hc1 hb1
  go_wp2_with fail
  refine (l7Batch_some HC1.out).mono ?_
  rintro e w3 ⟨v3, l, rfl, ho3, hl3, hc3, ht3⟩
  have HB3 := hide (HB1.out.trans (ht3.below (Nat.le_refl _) HB1.out.size))
  have HC3 := hide hc3
  obtain ⟨a3, c3, rfl, hrd, _⟩ := ho3.form
  have HSH := hide (sShow_any a3 c3 l w3 hrd (by omega))
  obtain ⟨V, hV⟩ : ∃ V, V = showL l := ⟨_, rfl⟩
  have hVl : V.length ≤ 400 := by rw [hV]; exact showL_len l
  rw [← hV] at HSH
  obtain ⟨y3, hy3⟩ : ∃ y3, y3 = l.length := ⟨_, rfl⟩
  rw [← hy3] at HSH ⊢
  clear ho3 hc3 ht3 hy3 hrd hV
  go_wp2_with fail
  refine HSH.out.mono ?_
  rintro e w4 ⟨rfl, hb4⟩
  have HB4 := hide (HB3.out.trans (hb4.mono HB3.out.size))
  have HC4 := hide (HC3.out.keep (hb4.mono HC3.out.lt))
  clear hb4
  go_wp2_with fail
  refine (once_some 3 (by omega) HC4.out).mono ?_
  rintro e w5 ⟨b, rfl, hc5, ht5⟩
  have HB5 := hide (HB4.out.trans (ht5.below (Nat.le_refl _) HB4.out.size))
  obtain ⟨cc, hcc⟩ := hc5
  have HC5 := hide hcc
  clear hcc ht5
  cases b with
  | false =>
    go_wp2_with fail
    go_ret
    exact ⟨_, rfl, by rw [size_of]; omega, HB5.out⟩
  | true =>
    go_wp2_with fail
    refine (l1Spoil_any ⟨V.toArray⟩ (by rw [size_of]; omega) HC5.out).mono ?_
    rintro e w6 ⟨rfl, ht6⟩
    have HB6 := hide (HB5.out.trans (ht6.below (Nat.le_refl _) HB5.out.size))
    have HS := hide (cSpoil_len bs (bl ⟨V.toArray⟩) cc)
    rw [bl_of V] at HS
    clear ht6
    go_wp2_with fail
    go_ret
    exact ⟨_, rfl, by rw [size_of]; exact Nat.le_trans HS.out (by omega), HB6.out⟩
end Go.Proofs.Ytmdhihgfnlnbnaa
