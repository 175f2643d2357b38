/-
  Texts of this proof, put together: TabL, TabV, TabW, LawTableGet.
-/
import Derived.Test.YtdlkgpobjacgeaaGreatDoorPackBQ
import Derived.Test.YtdlkgpobjacgeaaGreatDoorPackBJ
import Derived.Test.YtdlkgpobjacgeaaGreatDoorPackBP
import Derived.OrdersHeld
import Derived.Deep.RegionHeld
import Derived.Test.YtdlkgpobjacgeaaGreatDoorPackBR
import Derived.Test.YtdlkgpobjacgeaaGreatDoorPackAF
import Derived.Deep.RegionHeld3

/-
  Contract of impl.TableEnts, where the table of the program holds its sixteen words.
-/
namespace Go.Proofs.YtdlkgpobjacgeaaGreatDoor
open Go.ChangeShapes Go.WideShapes Go.ChangeAt Go.RowKit

set_option maxHeartbeats 2000000 in
set_option maxRecDepth 40000 in
theorem iTableEnts_any (a : Option Addr) (cap : Nat) (P : List PartE) (b : ByteArray) (m : Int) (w : World) (hr : elPart.Rd w w.heap.size a P) (hl : P.length ≤ maxLen) (hcap : P.length ≤ cap) (hk : ∀ x ∈ P, x.2.size ≤ 1048576) (hw0 : 0 < w.heap.size) (hT : Hid (CrcTabIn w)) :
    Calls Tryz.prog 8 #[.agg #[.slice a P.length cap, .string b, .int .i64 m]] w (TEPost w (P, b, m)) := by
  have HR := hide hr
  have HTC := hide (tab_claim (P, b, m))
  have HCL := hide (fun W h => tabClaimed_any a cap P b m W h hl hcap hk)
  unfold EntsP1 at HCL
  have HEL := hide (show (entsP (P.take 10)).length ≤ 160 by
    have h := entsP_len (P.take 10)
    rw [List.length_take] at h
    omega)
  obtain ⟨X, hX⟩ : ∃ X, X = entsP (P.take 10) := ⟨_, rfl⟩
  simp only [← hX] at HTC HCL HEL
  obtain ⟨n, hn⟩ : ∃ n, n = P.length := ⟨_, rfl⟩
  have HN := hide hn
  have HLL := hide hl
  rw [← hn] at hl hcap HCL ⊢
  clear hn hr hk hX
  have HX0 := hide (BoxV.new 26 w #[.slice a n cap, .string b, .int .i64 m])
  have HB0 := hide ((Below.refl w.heap.size w).alloc (Nat.le_refl _) (.cells #[.slice a n cap, .string b, .int .i64 m] 26))
  go_enter Tryz.func8, Tryz.ntmps8
  go_wp2_with fail
  refine (HCL.out _ ((HR.out.below HB0.out (Nat.le_refl _)).mono HB0.out.size)).mono ?_
  rintro e w1 ⟨v, rfl, ho, hb1⟩
  obtain ⟨a1, c1, rfl, hrd, hc1, _⟩ := ho.form
  have HB1 := hide (HB0.out.trans (hb1.mono HB0.out.size))
  have HX1 := hide (HX0.out.below hb1 HX0.out.lt)
  have HO1 := hide (ho.mono HB0.out.size)
  have hs1 := HB1.out.size
  have HTO := hide (iTableOf_any a1 c1 X w1 hrd (by have := HEL.out; unfold maxLen; omega) hc1 (Nat.lt_of_lt_of_le hw0 hs1) (hide (hT.out.below HB1.out hw0)))
  unfold TabPost at HTO
  obtain ⟨⟨Q, q1, q2⟩, hQ⟩ : ∃ t, t = tblV X := ⟨_, rfl⟩
  have HQL := hide (show Q.length ≤ 10 by have h := tblV_len X; rw [← hQ] at h; exact h)
  have HQ := hide hQ
  rw [← hQ] at HTO
  dsimp only at HTO
  obtain ⟨k, hkX⟩ : ∃ k, k = X.length := ⟨_, rfl⟩
  have HKX := hide hkX
  rw [← hkX] at HTO HO1 ⊢
  clear hb1 ho hrd hc1 HX0 HB0 HCL hQ hkX
  by_cases hok : tblOk X
  · rw [decide_eq_true hok] at HTO
    go_wp2_with fail
    refine HTO.out.mono ?_
    rintro e w2 ⟨v, rfl, ho, hb2⟩
    obtain ⟨a2, c2, rfl, hrd, _⟩ := ho.form
    have HB2 := hide (HB1.out.trans (hb2.mono hs1))
    have HO2 := hide (HO1.out.below hb2 (Nat.le_refl _))
    have HX2 := hide (HX1.out.below hb2 HX1.out.lt)
    have hs2 := HB2.out.size
    have HX3 := hide (HX2.out.alloc (.cells #[.slice a2 Q.length c2, .string q1, .int .i64 q2] 26))
    have HY3 := hide (BoxV.new 26 w2 #[.slice a2 Q.length c2, .string q1, .int .i64 q2])
    have HB3 := hide (HB2.out.alloc hs2 (.cells #[.slice a2 Q.length c2, .string q1, .int .i64 q2] 26))
    have HO3 := hide (HO2.out.alloc (.cells #[.slice a2 Q.length c2, .string q1, .int .i64 q2] 26))
    have hs3 := HB3.out.size
    have HSM := hide (equal_any a2 a c2 cap Q P q1 b q2 m (w2.alloc (.cells #[.slice a2 Q.length c2, .string q1, .int .i64 q2] 26)) ((hrd.below ((Below.refl w2.heap.size w2).alloc (Nat.le_refl _) _) (Nat.le_refl _)).mono (by simp)) ((HR.out.below HB3.out (Nat.le_refl _)).mono hs3) (by have := HQL.out; unfold maxLen; omega))
    rw [← HN.out] at HSM
    obtain ⟨z0, z1, z2⟩ := HX3.out.three
    obtain ⟨y0, y1, y2⟩ := HY3.out.three
    clear hb2 ho hrd HO1 HX1 HB1 HX2 HB2 HO2 HTO
    by_cases heq : (Q, q1, q2) = (P, b, m)
    · have HYS := hide (HTC.out.1 ⟨hok, by rw [← tblV_yes hok, ← HQ.out, heq]⟩)
      rw [decide_eq_true heq] at HSM
      clear hok heq
      go_wp2_with fail
      refine HSM.out.mono ?_
      rintro e w4 ⟨rfl, hb4⟩
      have HB4 := hide (HB3.out.trans (hb4.mono hs3))
      have HO4 := hide (HO3.out.below hb4 (Nat.le_refl _))
      clear hb4
      go_wp2_with fail
      go_ret2
      exact ⟨_, by rw [HYS.out.2]; rfl, by rw [HYS.out.1]; exact HO4.out.mono (Nat.le_refl _), HB4.out⟩
    · have HNS := hide (HTC.out.2 fun h => heq (by rw [HQ.out, tblV_yes hok]; exact h.2))
      rw [decide_eq_false heq] at HSM
      clear hok heq
      go_wp2_with fail
      refine HSM.out.mono ?_
      rintro e w4 ⟨rfl, hb4⟩
      have HB4 := hide (HB3.out.trans (hb4.mono hs3))
      clear hb4
      go_wp2_with fail
      go_ret2
      exact TEPost.no HNS.out _ (El.Owns.nil _ _) HB4.out
  · have HNS := hide (HTC.out.2 fun h => hok h.1)
    rw [decide_eq_false hok] at HTO
    clear hok
    go_wp2_with fail
    refine HTO.out.mono ?_
    rintro e w2 ⟨v, rfl, ho, hb2⟩
    obtain ⟨a2, c2, rfl, hrd, _⟩ := ho.form
    have HB2 := hide (HB1.out.trans (hb2.mono hs1))
    have hs2 := HB2.out.size
    have HB3 := hide (HB2.out.alloc hs2 (.cells #[.slice a2 Q.length c2, .string q1, .int .i64 q2] 26))
    clear hb2 ho hrd HO1 HX1 HB1 HB2 HTO
    go_wp2_with fail
    go_ret2
    exact TEPost.no HNS.out _ (El.Owns.nil _ _) HB3.out
end Go.Proofs.YtdlkgpobjacgeaaGreatDoor

/-
  Contracts of impl.searchParts under the closure of TableGet and, where the table of the program holds its sixteen words, of impl.TableGet.
-/
namespace Go.Proofs.YtdlkgpobjacgeaaGreatDoor
open Go.ChangeShapes Go.WideShapes Go.ChangeAt Go.RowKit

/-- what a search leaves: an entry in its box, and how many parts were read -/
def SearchP (ge : Nat) (w : World) (r : En × Nat) (e : Ending) (w' : World) : Prop :=
  e = .returned (.int .i64 (r.2 : Int)) ∧ BoxV 30 w' ge #[.string r.1.1, .int .i64 r.1.2.1, .bool r.1.2.2.1, .string r.1.2.2.2] ∧ Only (some ge) w w'
theorem only_cell {ge : Nat} {w w' : World} (h : Only (some ge) w w') {p : Addr} (hp : p.block < w.heap.size) (hne : p.block ≠ ge) : w'.cell? p = w.cell? p := by
  unfold World.cell?
  rw [h.block p.block hp (fun e => hne (Option.some.inj e))]

set_option maxHeartbeats 4000000 in
set_option maxRecDepth 40000 in
theorem searchParts_any (gk gs ge b off cap : Nat) (P : List PartE) (key : ByteArray) (q : Int) (w : World) (hr : elPart.Rd w w.heap.size (some ⟨b, off, none⟩) P) (h0 : 0 < P.length) (hl : P.length ≤ 1000000) (hcap : P.length ≤ cap) (hP : PrtOk P) (hsz : ∀ x ∈ P, x.2.size ≤ 1048576)
    (hk : w.cell? ⟨gk, 0, none⟩ = some (.string key)) (hs : w.cell? ⟨gs, 0, none⟩ = some (.int .i64 q)) (he : BoxV 30 w ge #[.string ⟨#[]⟩, .int .i64 0, .bool false, .string ⟨#[]⟩]) (hkge : gk ≠ ge) (hsge : gs ≠ ge) (hbge : b ≠ ge) :
    Calls Tryz.prog 26 #[.slice (some ⟨b, off, none⟩) P.length cap, .string key, .func (.func 27) #[] #[.pointer (some ⟨gk, 0, none⟩), .pointer (some ⟨gs, 0, none⟩), .pointer (some ⟨ge, 0, none⟩)]] w (SearchP ge w (runG key q (P.drop (firstP key P)))) := by
  have HR := hide hr
  have HSZ := hide hsz
  obtain ⟨_, _, eb, hbw, _⟩ := hr h0
  injection eb with eb
  injection eb with eb1 eb2
  subst eb1 eb2
  have lk := World.block_lt_of_cell? w _ hk
  have ls := World.block_lt_of_cell? w _ hs
  have HGE := hide (fun (i : Nat) (x : PartE) (h : P[i]? = some x) (hi : firstP key P ≤ i) => firstP_ge hP h hi)
  have hq := firstP_le key P
  have HSR := hide (fun gp W hp hk hr => search_any gp (w.heap.size + 1) b off cap P key W hp hk hr hl hP)
  obtain ⟨r, hrr⟩ : ∃ r, r = runG key q (P.drop (firstP key P)) := ⟨_, rfl⟩
  have HRR := hide hrr
  rw [← hrr]
  obtain ⟨fq, hfq⟩ : ∃ fq, fq = firstP key P := ⟨_, rfl⟩
  rw [← hfq] at HGE hq HSR HRR
  obtain ⟨n, hn⟩ : ∃ n, n = P.length := ⟨_, rfl⟩
  have HN := hide hn
  rw [← hn] at h0 hl hcap hq HSR ⊢
  have HK := hide hk
  have HS := hide hs
  have HE0 := hide he
  -- the two boxes
  have HB0 := hide (((Below.refl w.heap.size w).alloc (Nat.le_refl _) (.cells #[.slice (some ⟨b, off, none⟩) n cap] 24)).alloc (by simp) (.cells #[.string key] 9))
  have hp0 : ((w.alloc (.cells #[.slice (some ⟨b, off, none⟩) n cap] 24)).alloc (.cells #[.string key] 9)).cell? ⟨w.heap.size, 0, none⟩ = some (.slice (some ⟨b, off, none⟩) n cap) := ((BoxV.new 24 w #[.slice (some ⟨b, off, none⟩) n cap]).alloc _).cell 0 _ rfl
  have hk0 : ((w.alloc (.cells #[.slice (some ⟨b, off, none⟩) n cap] 24)).alloc (.cells #[.string key] 9)).cell? ⟨w.heap.size + 1, 0, none⟩ = some (.string key) := by
    have h := (BoxV.new 9 (w.alloc (.cells #[.slice (some ⟨b, off, none⟩) n cap] 24)) #[.string key]).cell 0 _ rfl
    rw [Go.Deep.nblk_alloc] at h
    exact h
  obtain ⟨W0, hW0⟩ : ∃ W0, W0 = (w.alloc (.cells #[.slice (some ⟨b, off, none⟩) n cap] 24)).alloc (.cells #[.string key] 9) := ⟨_, rfl⟩
  have hsz0 : W0.heap.size = w.heap.size + 2 := by rw [hW0]; simp
  rw [← hW0] at HB0 hp0 hk0
  have HP0 := hide hp0
  have HK0 := hide hk0
  have HS0 := hide hsz0
  have hel := he.lt
  clear hr hsz hP hk hs he hrr hfq hn hp0 hk0 hsz0
  go_enter Tryz.func26, Tryz.ntmps26
  go_upto_region 1 with (fail)
  rw [← hW0]
  clear hW0
  have hp0 := HP0.out
  go_wp2_with fail
  refine (HSR.out _ _ HP0.out HK0.out ((HR.out.below HB0.out (Nat.le_refl _)).mono HB0.out.size)).mono ?_
  rintro e w2 ⟨rfl, hb2⟩
  have HB2 := hide (HB0.out.trans (hb2.mono HB0.out.size))
  have HP2 := hide ((hb2.cell (p := ⟨w.heap.size, 0, none⟩) (by show w.heap.size < _; have := HS0.out; omega)).trans HP0.out)
  have HK2 := hide ((hb2.cell (p := ⟨w.heap.size + 1, 0, none⟩) (by show w.heap.size + 1 < _; have := HS0.out; omega)).trans HK0.out)
  have hsz2 : w.heap.size + 2 ≤ w2.heap.size := by have := HS0.out; have := hb2.size; omega
  have HE2 := hide (HE0.out.below HB2.out hel)
  clear hb2 HSR HP0 HK0 hp0
  have hp2 := HP2.out
  obtain ⟨aR, haR⟩ : ∃ aR, aR = if cap = fq then some (⟨b, off, none⟩ : Addr) else some ⟨b, off + fq * 2, none⟩ := ⟨_, rfl⟩
  have hsl : ∀ W : World, (Instr.slice 24 (.slice (some ⟨b, off, none⟩) n cap) (some (.int .i64 (fq : Int))) none none).run Tryz.prog W = .ok (.slice aR (n - fq) (cap - fq)) W := fun W => by
    obtain ⟨i0, hi0, hz0, hz1, hz2⟩ := info_parts infoPart
    rw [run_slice_l (P := Tryz.prog) W 24 (some ⟨b, off, none⟩) n cap (by kernel_rfl) .i64 (fq : Int) (by omega) (by omega)]
    rw [show Tryz.prog.elem 24 = 59 by kernel_rfl, haR]
    by_cases hcf : cap = fq
    · simp [sizeOf, typeInfo, hi0, hz1, sliced, hcf]
    · simp [sizeOf, typeInfo, hi0, hz1, sliced, hcf, Addr.add]
  have HAR := hide haR
  obtain ⟨m, hm⟩ : ∃ m, m = n - fq := ⟨_, rfl⟩
  have HM := hide hm
  rw [← hm] at hsl
  clear haR hm
  go_wp2_with fail
  go_loopw [18] (fun i wr => ∃ j : Nat, i = .int .i64 j ∧ j ≤ m ∧ Hid (r = ((runG key q (P.drop (fq + j))).1, j + (runG key q (P.drop (fq + j))).2)) ∧ Hid (BoxV 30 wr ge #[.string ⟨#[]⟩, .int .i64 0, .bool false, .string ⟨#[]⟩]) ∧ Hid (Only (some ge) w2 wr)) (fun i _ => m - (intOf i).toNat)
  case atStart => exact ⟨0, rfl, by omega, by rw [Nat.add_zero, Nat.zero_add]; exact HRR.out, HE2.out, Only.refl _ _⟩
  case round =>
    obtain ⟨j, rfl, hj, HRN, HE, HO⟩ := hrel
    have hsr := HO.out.size
    have hwge : ge < w2.heap.size := HE2.out.lt
    have HOW := hide (show Only (some ge) w wr from ((Only.refl (some ge) w).then_below HB2.out (Nat.le_refl _)).trans HO.out)
    by_cases hlt : j < m
    · have hjn : fq + j < n := by have := HM.out; omega
      have hjP : fq + j < P.length := by rw [← HN.out]; exact hjn
      obtain ⟨f0, f1, hx⟩ := partsPart (P[fq + j]'hjP)
      have HJ := hide (show P[fq + j]? = some (f0, f1) by rw [List.getElem?_eq_getElem hjP, hx])
      obtain ⟨_, _, e, _, hc⟩ := HR.out (by omega)
      injection e with e
      injection e with e1 e2
      subst e1 e2
      obtain ⟨c0, c1⟩ := cellsPart hx (hc (fq + j) hjP)
      obtain rfl : aR = some ⟨b, off + fq * 2, none⟩ := by rw [HAR.out, if_neg (by omega)]
      have haddr : off + (fq + j) * 2 = off + fq * 2 + j * 2 := by omega
      rw [haddr] at c0 c1
      have d0 := (only_cell HOW.out (p := ⟨b, off + fq * 2 + j * 2, none⟩) hbw hbge).trans c0
      have d1 := (only_cell HOW.out (p := ⟨b, off + fq * 2 + j * 2 + 1, none⟩) hbw hbge).trans c1
      have kk := (only_cell HOW.out (p := ⟨gk, 0, none⟩) lk hkge).trans HK.out
      have ss := (only_cell HOW.out (p := ⟨gs, 0, none⟩) ls hsge).trans HS.out
      have hf1 := HSZ.out _ (List.mem_of_getElem? HJ.out)
      dsimp only at hf1
      have HCN := hide (runG_cons (k := key) (n := q) HJ.out)
      have hlb : Op.bytesLess f0.toList key.toList = false := HGE.out (fq + j) _ HJ.out (by omega)
      -- the part in its box
      have HX5' := BoxV.new 59 wr #[.string f0, .string f1]
      have HE5' := HE.out.alloc (.cells #[.string f0, .string f1] 59)
      have HO5' : Only (some ge) w2 (wr.alloc (.cells #[.string f0, .string f1] 59)) := HO.out.then_below ((Below.refl wr.heap.size wr).alloc (Nat.le_refl _) _) hsr
      have kk5' := (World.cell?_alloc_lt wr (.cells #[.string f0, .string f1] 59) ⟨gk, 0, none⟩ (World.block_lt_of_cell? wr _ kk)).trans kk
      have ss5' := (World.cell?_alloc_lt wr (.cells #[.string f0, .string f1] 59) ⟨gs, 0, none⟩ (World.block_lt_of_cell? wr _ ss)).trans ss
      obtain ⟨W5, hW5⟩ : ∃ W5, W5 = wr.alloc (.cells #[.string f0, .string f1] 59) := ⟨_, rfl⟩
      rw [← hW5] at HX5' HE5' HO5' kk5' ss5'
      have HX5 := hide HX5'
      have HE5 := hide HE5'
      have HO5 := hide HO5'
      have HOW5 := hide (show Only (some ge) w W5 from ((Only.refl (some ge) w).then_below HB2.out (Nat.le_refl _)).trans HO5')
      obtain ⟨⟨z0, z1, z2, z3⟩, hzz⟩ : ∃ z, z = (getE key q (readK (bl f1))).getD zeroE := ⟨_, rfl⟩
      have HFD := hide (found_any gk gs ge f0 f1 key q W5.drew kk5' ss5' HE5'.drew hf1 z0 z1 z2 z3 hzz.symm)
      unfold FoundP at HFD
      have hgx : wr.heap.size ≠ ge := by omega
      have hbx : wr.heap.size < W5.heap.size := HX5'.lt
      have HD6 := hide (fun (w6 : World) (h : Only (some ge) W5 w6) => show (w6.cell? ⟨wr.heap.size, 0, none⟩ = some (.string f0) ∧ w6.cell? ⟨wr.heap.size, 1, none⟩ = some (.string f1)) ∧ w6.cell? ⟨w.heap.size + 1, 0, none⟩ = some (.string key) from
        ⟨⟨(only_cell h (p := ⟨wr.heap.size, 0, none⟩) hbx hgx).trans HX5.out.two'.1, (only_cell h (p := ⟨wr.heap.size, 1, none⟩) hbx hgx).trans HX5.out.two'.2⟩,
          (only_cell h (p := ⟨w.heap.size + 1, 0, none⟩) (by show w.heap.size + 1 < _; omega) (by show w.heap.size + 1 ≠ ge; omega)).trans ((only_cell HO5.out (p := ⟨w.heap.size + 1, 0, none⟩) (by show w.heap.size + 1 < _; omega) (by show w.heap.size + 1 ≠ ge; omega)).trans HK2.out)⟩)
      have HZZ := hide hzz
      obtain ⟨fb, hfb⟩ : ∃ fb, fb = (getE key q (readK (bl f1))).isSome := ⟨_, rfl⟩
      have HFB := hide hfb
      rw [← hfb] at HFD
      obtain ⟨e, hge⟩ : ∃ e, e = getE key q (readK (bl f1)) := ⟨_, rfl⟩
      simp only [← hge] at HZZ HCN HFB
      have hmeth := method_lastKey f0 f1
      clear HX5' HE5' HO5' kk5' ss5' hzz hfb hge HE HO kk ss c0 c1 hc hx haddr
      cases e with
      | some y =>
        obtain rfl : fb = true := HFB.out
        have HRy := hide (show r = ((z0, z1, z2, z3), j + 1) by rw [HRN.out, HCN.out, HZZ.out]; rfl)
        go_upto_region 5 with (fail)
        rw [← hW5]
        clear hW5 d0 d1 hmeth
        refine wp_region_held_drew (S := fun w' => (w'.cell? ⟨wr.heap.size, 0, none⟩ = some (.string f0) ∧ w'.cell? ⟨wr.heap.size, 1, none⟩ = some (.string f1)) ∧ w'.cell? ⟨w.heap.size + 1, 0, none⟩ = some (.string key)) (by kernel_rfl) (HD6.out _ (Only.refl _ _).drew) (fun hHeld => ?_)
        refine wpAnyH_take (i := 0) (v := ?_) rfl (by kernel_rfl) (by kernel_rfl) (by kernel_rfl) (fun _ _ _ h => h) (Or.inl ⟨by rfl, ?_⟩) (by assumption) ?_
        rotate_left 1
        · intro w hSw
          (try dsimp only at hSw)
          go_simp
          try with_reducible rfl
        go_simp
        refine wpAnyH_take (i := 1) (v := ?_) rfl (by kernel_rfl) (by kernel_rfl) (by kernel_rfl) (fun _ _ _ h => h) (Or.inl ⟨by rfl, ?_⟩) (by assumption) ?_
        rotate_left 1
        · intro w hSw
          (try dsimp only at hSw)
          go_simp
          try with_reducible rfl
        go_simp
        refine wpAnyH_ready (rs := [2]) (by kernel_rfl) (by simp) ?_
        refine AllReadyH.cons rfl (fun K hK => ?_) AllReadyH.nil
        go_simp
        go_at_call 27
        refine HFD.out.mono ?_
        rintro e w6 ⟨rfl, hx6, ho6⟩
        have HE6 := hide hx6
        have HO6 := hide (Only.of_drew ho6)
        clear hx6 ho6 hHeld
        refine hK.out _ _ (HD6.out _ HO6.out) (fun hHeld => ?_)
        clear hK K
        go_simp
        refine wpAnyH_take (i := 3) (v := ?_) rfl (by kernel_rfl) (by kernel_rfl) (by kernel_rfl) (fun _ _ _ h => h) (Or.inl ⟨by rfl, ?_⟩) (by assumption) ?_
        rotate_left 1
        · intro w hSw
          (try dsimp only at hSw)
          go_simp
          try with_reducible rfl
        go_simp
        refine wpAnyH_take (i := 4) rfl (by kernel_rfl) (by kernel_rfl) (by kernel_rfl) (fun _ _ _ h => h) (Or.inr ⟨by rfl, rfl⟩) (by assumption) ?_
        go_simp
        refine wpAnyH_take (i := 5) rfl (by kernel_rfl) (by kernel_rfl) (by kernel_rfl) (fun _ _ _ h => h) (Or.inr ⟨by rfl, rfl⟩) (by assumption) ?_
        go_simp
        refine wpAnyH_take (i := 6) rfl (by kernel_rfl) (by kernel_rfl) (by kernel_rfl) (fun _ _ _ h => h) (Or.inr ⟨by rfl, rfl⟩) (by assumption) ?_
        go_simp
        refine wpAnyH_take (i := 7) rfl (by kernel_rfl) (by kernel_rfl) (by kernel_rfl) (fun _ _ _ h => h) (Or.inr ⟨by rfl, rfl⟩) (by assumption) ?_
        go_simp
        refine wpAnyH_take (i := 8) rfl (by kernel_rfl) (by kernel_rfl) (by kernel_rfl) (fun _ _ _ h => h) (Or.inr ⟨by rfl, rfl⟩) (by assumption) ?_
        go_simp
        refine wpAnyH_take (i := 9) (v := ?_) rfl (by kernel_rfl) (by kernel_rfl) (by kernel_rfl) (fun _ _ _ h => h) (Or.inl ⟨by rfl, ?_⟩) (by assumption) ?_
        rotate_left 1
        · intro w hSw
          (try dsimp only at hSw)
          go_simp
          try with_reducible rfl
        go_simp
        refine wpAnyH_done (by kernel_rfl) ?_ _
        clear hHeld
        go_wp2_with fail
        go_ret
        rw [HRy.out]
        exact ⟨rfl, HE6.out, HOW5.out.trans HO6.out⟩
      | none =>
        obtain rfl : fb = false := HFB.out
        obtain ⟨rfl, rfl, rfl, rfl⟩ : z0 = ⟨#[]⟩ ∧ z1 = 0 ∧ z2 = false ∧ z3 = ⟨#[]⟩ := by
          have h := HZZ.out
          simp only [Option.getD_none, zeroE, Prod.mk.injEq] at h
          exact h
        go_upto_region 5 with (fail)
        rw [← hW5]
        clear hW5 d0 d1
        refine wp_region_held_drew (S := fun w' => (w'.cell? ⟨wr.heap.size, 0, none⟩ = some (.string f0) ∧ w'.cell? ⟨wr.heap.size, 1, none⟩ = some (.string f1)) ∧ w'.cell? ⟨w.heap.size + 1, 0, none⟩ = some (.string key)) (by kernel_rfl) (HD6.out _ (Only.refl _ _).drew) (fun hHeld => ?_)
        refine wpAnyH_take (i := 0) (v := ?_) rfl (by kernel_rfl) (by kernel_rfl) (by kernel_rfl) (fun _ _ _ h => h) (Or.inl ⟨by rfl, ?_⟩) (by assumption) ?_
        rotate_left 1
        · intro w hSw
          (try dsimp only at hSw)
          go_simp
          try with_reducible rfl
        go_simp
        refine wpAnyH_take (i := 1) (v := ?_) rfl (by kernel_rfl) (by kernel_rfl) (by kernel_rfl) (fun _ _ _ h => h) (Or.inl ⟨by rfl, ?_⟩) (by assumption) ?_
        rotate_left 1
        · intro w hSw
          (try dsimp only at hSw)
          go_simp
          try with_reducible rfl
        go_simp
        refine wpAnyH_ready (rs := [2]) (by kernel_rfl) (by simp) ?_
        refine AllReadyH.cons rfl (fun K hK => ?_) AllReadyH.nil
        go_simp
        go_at_call 27
        refine HFD.out.mono ?_
        rintro e w6 ⟨rfl, hx6, ho6⟩
        have HE6 := hide hx6
        have HO6 := hide (Only.of_drew ho6)
        clear hx6 ho6 hHeld
        refine hK.out _ _ (HD6.out _ HO6.out) (fun hHeld => ?_)
        clear hK K
        go_simp
        refine wpAnyH_take (i := 3) (v := ?_) rfl (by kernel_rfl) (by kernel_rfl) (by kernel_rfl) (fun _ _ _ h => h) (Or.inl ⟨by rfl, ?_⟩) (by assumption) ?_
        rotate_left 1
        · intro w hSw
          (try dsimp only at hSw)
          go_simp
          try with_reducible rfl
        go_simp
        refine wpAnyH_take (i := 4) (v := ?_) rfl (by kernel_rfl) (by kernel_rfl) (by kernel_rfl) (fun _ _ _ h => h) (Or.inl ⟨by rfl, ?_⟩) (by assumption) ?_
        rotate_left 1
        · intro w hSw
          (try dsimp only at hSw)
          go_simp
          try with_reducible rfl
        go_simp
        refine wpAnyH_take (i := 5) (v := ?_) rfl (by kernel_rfl) (by kernel_rfl) (by kernel_rfl) (fun _ _ _ h => h) (Or.inl ⟨by rfl, ?_⟩) (by assumption) ?_
        rotate_left 1
        · intro w hSw
          (try dsimp only at hSw)
          go_simp
          try with_reducible rfl
        go_simp
        refine wpAnyH_take (i := 7) (v := ?_) rfl (by kernel_rfl) (by kernel_rfl) (by kernel_rfl) (fun _ _ _ h => h) (Or.inl ⟨by rfl, ?_⟩) (by assumption) ?_
        rotate_left 1
        · intro w hSw
          (try dsimp only at hSw)
          go_simp
          try with_reducible rfl
        go_simp
        refine wpAnyH_ready (rs := [6]) (by kernel_rfl) (by simp) ?_
        refine AllReadyH.cons rfl (fun K hK => ?_) AllReadyH.nil
        go_simp
        go_at_call 142
        refine (lastKey_any f0 f1 _).mono ?_
        rintro e w7 ⟨rfl, hb7⟩
        have HO7 := hide (HO6.out.then_below hb7 HO6.out.size)
        have HE7 := hide (HE6.out.below hb7 HE6.out.lt)
        clear hb7 hHeld
        refine hK.out _ _ (HD6.out _ HO7.out) (fun hHeld => ?_)
        clear hK K
        go_simp
        by_cases hgt : kless key f0 = true
        · have HRy := hide (show r = (zeroE, j + 1) by rw [HRN.out, HCN.out]; dsimp only; rw [if_pos hgt])
          have hge : (f0.toList == key.toList) = false := by
            rw [str_eqB, decide_eq_false]
            rintro rfl
            rw [kless_irrefl] at hgt
            cases hgt
          clear hgt
          refine wpAnyH_take (i := 8) (v := ?_) rfl (by kernel_rfl) (by kernel_rfl) (by kernel_rfl) (fun _ _ _ h => h) (Or.inl ⟨by rfl, ?_⟩) (by assumption) ?_
          rotate_left 1
          · intro w hSw
            (try dsimp only at hSw)
            go_simp
            try with_reducible rfl
          go_simp
          refine wpAnyH_take (i := 9) (v := ?_) rfl (by kernel_rfl) (by kernel_rfl) (by kernel_rfl) (fun _ _ _ h => h) (Or.inl ⟨by rfl, ?_⟩) (by assumption) ?_
          rotate_left 1
          · intro w hSw
            (try dsimp only at hSw)
            go_simp
            try with_reducible rfl
          go_simp
          refine wpAnyH_done (by kernel_rfl) ?_ _
          clear hHeld
          go_wp2_with fail
          go_ret
          rw [HRy.out]
          exact ⟨rfl, HE7.out, HOW5.out.trans HO7.out⟩
        · have HRy := hide (show r = ((runG key q (P.drop (fq + (j + 1)))).1, (j + 1) + (runG key q (P.drop (fq + (j + 1)))).2) by
            rw [HRN.out, HCN.out]
            dsimp only
            rw [if_neg hgt]
            dsimp only
            rw [show fq + j + 1 = fq + (j + 1) by omega, show j + ((runG key q (P.drop (fq + (j + 1)))).2 + 1) = j + 1 + (runG key q (P.drop (fq + (j + 1)))).2 by omega])
          have hge : (f0.toList == key.toList) = true := by
            rw [str_eqB, decide_eq_true]
            exact kless_tri hlb (by rw [← Bool.not_eq_true]; exact hgt)
          clear hgt
          refine wpAnyH_take (i := 8) (v := ?_) rfl (by kernel_rfl) (by kernel_rfl) (by kernel_rfl) (fun _ _ _ h => h) (Or.inl ⟨by rfl, ?_⟩) (by assumption) ?_
          rotate_left 1
          · intro w hSw
            (try dsimp only at hSw)
            go_simp
            try with_reducible rfl
          go_simp
          refine wpAnyH_take (i := 9) (v := ?_) rfl (by kernel_rfl) (by kernel_rfl) (by kernel_rfl) (fun _ _ _ h => h) (Or.inl ⟨by rfl, ?_⟩) (by assumption) ?_
          rotate_left 1
          · intro w hSw
            (try dsimp only at hSw)
            go_simp
            try with_reducible rfl
          go_simp
          refine wpAnyH_done (by kernel_rfl) ?_ _
          clear hHeld
          go_wp2_with fail
          go_roundw
          case rel => exact ⟨j + 1, by go_num, by omega, HRy, HE7, hide (HO5.out.trans HO7.out)⟩
          case measure => simp [intOf]; omega
    · obtain rfl : j = m := by omega
      have HRy := hide (show r = (zeroE, j) by
        rw [HRN.out, List.drop_of_length_le (by rw [← HN.out]; have := HM.out; omega)]
        rfl)
      have hp3 := (only_cell HO.out (p := ⟨w.heap.size, 0, none⟩) (by show w.heap.size < _; omega) (by show w.heap.size ≠ ge; omega)).trans HP2.out
      have hsub : IntKind.i64.wrap ((n : Int) - (fq : Int)) = (j : Int) := by rw [IntKind.wrap_i64]; have := HM.out; omega
      have hsub2 : (n : Int) - (fq : Int) = (j : Int) := by have := HM.out; omega
      have hwj : IntKind.i64.wrap (j : Int) = (j : Int) := by rw [IntKind.wrap_i64]; have := HM.out; omega
      go_wp2_with fail
      go_ret
      rw [HRy.out]
      exact ⟨rfl, HE.out, HOW.out⟩
end Go.Proofs.YtdlkgpobjacgeaaGreatDoor

/-
  Contract of impl.TableGet, where the table of the program holds its sixteen words.
-/
namespace Go.Proofs.YtdlkgpobjacgeaaGreatDoor
open Go.ChangeShapes Go.WideShapes Go.ChangeAt Go.RowKit

/-- behind the boxes that TableGet lays -/
theorem get_boxes (w : World) (v0 : Value) (b key : ByteArray) (m q : Int) : ∃ W, W = (((w.alloc (.cells #[v0, .string b, .int .i64 m] 26)).alloc (.cells #[.string key] 9)).alloc (.cells #[.int .i64 q] 3)).alloc (.cells #[.string ⟨#[]⟩, .int .i64 0, .bool false, .string ⟨#[]⟩] 30) ∧ Below w.heap.size w W ∧ W.heap.size = w.heap.size + 4 ∧
    BoxV 26 W w.heap.size #[v0, .string b, .int .i64 m] ∧ BoxV 9 W (w.heap.size + 1) #[.string key] ∧ BoxV 3 W (w.heap.size + 2) #[.int .i64 q] ∧ BoxV 30 W (w.heap.size + 3) #[.string ⟨#[]⟩, .int .i64 0, .bool false, .string ⟨#[]⟩] := by
  refine ⟨_, rfl, (((((Below.refl _ _).alloc (Nat.le_refl _) _).alloc (by simp) _).alloc (by simp <;> omega) _).alloc (by simp <;> omega) _), by simp, ?_, ?_, ?_, ?_⟩
  · exact (((BoxV.new 26 w _).alloc _).alloc _).alloc _
  · have h := ((BoxV.new 9 (w.alloc (.cells #[v0, .string b, .int .i64 m] 26)) #[.string key]).alloc (.cells #[.int .i64 q] 3)).alloc (.cells #[.string ⟨#[]⟩, .int .i64 0, .bool false, .string ⟨#[]⟩] 30)
    simp only [Go.Deep.nblk_alloc] at h
    exact h
  · have h := (BoxV.new 3 ((w.alloc (.cells #[v0, .string b, .int .i64 m] 26)).alloc (.cells #[.string key] 9)) #[.int .i64 q]).alloc (.cells #[.string ⟨#[]⟩, .int .i64 0, .bool false, .string ⟨#[]⟩] 30)
    simp only [Go.Deep.nblk_alloc] at h
    exact h
  · have h := BoxV.new 30 (((w.alloc (.cells #[v0, .string b, .int .i64 m] 26)).alloc (.cells #[.string key] 9)).alloc (.cells #[.int .i64 q] 3)) #[.string ⟨#[]⟩, .int .i64 0, .bool false, .string ⟨#[]⟩]
    simp only [Go.Deep.nblk_alloc] at h
    exact h

set_option maxHeartbeats 4000000 in
set_option maxRecDepth 40000 in
theorem iTableGet_any (a : Option Addr) (cap : Nat) (P : List PartE) (b key : ByteArray) (m q : Int) (w : World) (hr : elPart.Rd w w.heap.size a P) (hl : P.length ≤ maxLen) (hcap : P.length ≤ cap) (hk : ∀ x ∈ P, x.2.size ≤ 1048576) (hb : b.size ≤ maxLen) (hkey : key.size ≤ 1048576) (hw0 : 0 < w.heap.size) (hTb : Hid (CrcTabIn w)) :
    Calls Tryz.prog 7 #[.agg #[.slice a P.length cap, .string b, .int .i64 m], .string key, .int .i64 q] w (GetPost w (getT (P, b, m) key q)) := by
  have HR := hide hr
  have HKS := hide hk
  have HTE := hide (fun W h hz ht => iTableEnts_any a cap P b m W h hl hcap hk hz ht)
  unfold TEPost at HTE
  have HMY := hide (fun W hz ht => iMay_any b key W hb hkey hz ht)
  obtain ⟨r, hrr⟩ : ∃ r, r = getT (P, b, m) key q := ⟨_, rfl⟩
  have HV := hide hrr
  rw [← hrr]
  have hn0 : P.length = P.length := rfl
  obtain ⟨n, hn⟩ : ∃ n, n = P.length := ⟨_, rfl⟩
  have HN := hide hn
  rw [← hn] at hl hcap HTE ⊢
  clear hn hr hk hrr hn0
  obtain ⟨W0, hW0, hbB, hsz0, hbX, hbK, hbS, hbE⟩ := get_boxes w (.slice a n cap) b key m q
  have HB0 := hide hbB
  have HX0 := hide hbX
  have HK0 := hide hbK
  have HS0 := hide hbS
  have HE0 := hide hbE
  have HZ0 := hide hsz0
  have HEQ := hide (HTE.out _ ((HR.out.below HB0.out (Nat.le_refl _)).mono HB0.out.size) (Nat.lt_of_lt_of_le hw0 HB0.out.size) (hide (hTb.out.below HB0.out hw0)))
  obtain ⟨tq, htq⟩ : ∃ tq, tq = tabQ (P, b, m) := ⟨_, rfl⟩
  obtain ⟨mq, hmq⟩ : ∃ mq, mq = mayV (bl b) (bl key) := ⟨_, rfl⟩
  have HTQ := hide htq
  have HMQ := hide hmq
  rw [← htq] at HEQ
  rw [← hmq] at HMY
  clear htq hmq HTE hbB hbX hbK hbS hbE hsz0
  have HNO := hide (show ¬ (tq = true ∧ mq = true) → r = (zeroE, 0) from fun h => HV.out.trans (getT_no fun h2 => h ⟨HTQ.out.trans (tabQ_iff.2 h2.1), HMQ.out.trans h2.2⟩))
  go_enter Tryz.func7, Tryz.ntmps7
  go_upto_region 1 with (fail)
  rw [← hW0]
  clear hW0
  obtain ⟨x0, x1, x2⟩ := HX0.out.three
  go_wp2_with fail
  refine HEQ.out.mono ?_
  rintro e w1 ⟨v, rfl, ho, hb1⟩
  obtain ⟨a1, c1, rfl, _⟩ := ho.form
  have HX1 := hide (HX0.out.below hb1 HX0.out.lt)
  have HK1 := hide (HK0.out.below hb1 HK0.out.lt)
  have HS1 := hide (HS0.out.below hb1 HS0.out.lt)
  have HE1 := hide (HE0.out.below hb1 HE0.out.lt)
  have HB1 := hide (HB0.out.trans (hb1.mono HB0.out.size))
  have hsz1 : w.heap.size + 4 ≤ w1.heap.size := by have := HZ0.out; have := hb1.size; omega
  clear ho hb1 HX0 HK0 HS0 HE0 HB0 HEQ x0 x1 x2
  obtain ⟨x0, x1, x2⟩ := HX1.out.three
  have k0 := HK1.out.cell 0 _ rfl
  cases tq with
  | false =>
    have HZ := hide (HNO.out (fun h => by cases h.1))
    obtain ⟨y0, y1, y2, y3⟩ := HE1.out.froz4
    obtain ⟨d0, d1, d2, d3⟩ := HE1.out.four'
    have hl1 := HE1.out.lt
    go_wp2_with fail
    refine bodyPost_ret (res_ent' rfl _ _ (w.heap.size + 3) rfl (HE1.out.all4 _ _ _ _)) rfl ?_
    rw [HZ.out]
    exact ⟨rfl, below_four HB1.out (by omega) _ _ _ _⟩
  | true =>
  have HMC := hide (HMY.out w1 (Nat.lt_of_lt_of_le hw0 HB1.out.size) (hide (hTb.out.below HB1.out hw0)))
  unfold BoolPost at HMC
  cases mq with
  | false =>
    have HZ := hide (HNO.out (fun h => by cases h.2))
    go_wp2_with fail
    refine HMC.out.mono ?_
    rintro e w2 ⟨rfl, hb2⟩
    have HE2 := hide (HE1.out.below hb2 HE1.out.lt)
    have HB2 := hide (HB1.out.trans (hb2.mono HB1.out.size))
    clear hb2 HE1 HB1 x0 x1 x2 k0
    obtain ⟨y0, y1, y2, y3⟩ := HE2.out.froz4
    obtain ⟨d0, d1, d2, d3⟩ := HE2.out.four'
    have hl1 := HE2.out.lt
    go_wp2_with fail
    refine bodyPost_ret (res_ent' rfl _ _ (w.heap.size + 3) rfl (HE2.out.all4 _ _ _ _)) rfl ?_
    rw [HZ.out]
    exact ⟨rfl, below_four HB2.out (by omega) _ _ _ _⟩
  | true =>
  have hT := tabQ_iff.1 HTQ.out.symm
  have hpl := parts_len hT
  have hprt := isTbl_prt hT
  dsimp only at hpl hprt
  have HRU := hide (show r = runG key q (P.drop (firstP key P)) by
    rw [HV.out, getT_yes ⟨hT, HMQ.out.symm⟩]
    dsimp only
    rw [scan_run key q P hprt, firstP_drop])
  obtain ⟨bb, off, rfl, hbw, _⟩ := HR.out (by omega)
  go_wp2_with fail
  refine HMC.out.mono ?_
  rintro e w2 ⟨rfl, hb2⟩
  have HX2 := hide (HX1.out.below hb2 HX1.out.lt)
  have HK2 := hide (HK1.out.below hb2 HK1.out.lt)
  have HS2 := hide (HS1.out.below hb2 HS1.out.lt)
  have HE2 := hide (HE1.out.below hb2 HE1.out.lt)
  have HB2 := hide (HB1.out.trans (hb2.mono HB1.out.size))
  have hsz2 : w.heap.size + 4 ≤ w2.heap.size := by have := hb2.size; omega
  clear hb2 HX1 HK1 HS1 HE1 HB1 x0 x1 x2 k0 HMC HMY HNO
  have HG3 := hide (BoxV.new 30 w2 #[.string ⟨#[]⟩, .int .i64 0, .bool false, .string ⟨#[]⟩])
  have HX3 := hide (HX2.out.alloc (.cells #[.string ⟨#[]⟩, .int .i64 0, .bool false, .string ⟨#[]⟩] 30))
  have HK3 := hide (HK2.out.alloc (.cells #[.string ⟨#[]⟩, .int .i64 0, .bool false, .string ⟨#[]⟩] 30))
  have HS3 := hide (HS2.out.alloc (.cells #[.string ⟨#[]⟩, .int .i64 0, .bool false, .string ⟨#[]⟩] 30))
  have HE3 := hide (HE2.out.alloc (.cells #[.string ⟨#[]⟩, .int .i64 0, .bool false, .string ⟨#[]⟩] 30))
  have HB3 := hide (HB2.out.alloc HB2.out.size (.cells #[.string ⟨#[]⟩, .int .i64 0, .bool false, .string ⟨#[]⟩] 30))
  obtain ⟨W3, hW3⟩ : ∃ W3, W3 = w2.alloc (.cells #[.string ⟨#[]⟩, .int .i64 0, .bool false, .string ⟨#[]⟩] 30) := ⟨_, rfl⟩
  rw [← hW3] at HG3 HX3 HK3 HS3 HE3 HB3
  have HSP := hide (searchParts_any (w.heap.size + 1) (w.heap.size + 2) w2.heap.size bb off cap P key q W3 ((HR.out.below HB3.out (Nat.le_refl _)).mono HB3.out.size) (by omega) (by omega) (by rw [← HN.out]; exact hcap) hprt HKS.out (HK3.out.cell 0 _ rfl) (HS3.out.cell 0 _ rfl) HG3.out (by omega) (by omega) (by omega))
  rw [← HRU.out, ← HN.out] at HSP
  unfold SearchP at HSP
  clear HX2 HK2 HS2 HE2 HB2 hT hprt hpl
  go_upto_region 5 with (fail)
  rw [← hW3]
  clear hW3
  obtain ⟨x0, x1, x2⟩ := HX3.out.three
  have k0 := HK3.out.cell 0 _ rfl
  go_wp2_with fail
  refine HSP.out.mono ?_
  rintro e w4 ⟨rfl, hg4, ho4⟩
  have hne : w.heap.size + 3 ≠ w2.heap.size := by omega
  have HE4 := hide (show BoxV 30 w4 (w.heap.size + 3) #[.string ⟨#[]⟩, .int .i64 0, .bool false, .string ⟨#[]⟩] from (ho4.block (w.heap.size + 3) HE3.out.lt (fun e => hne (Option.some.inj e))).trans HE3.out)
  have HB4 := hide (HB3.out.trans (ho4.below (B := w.heap.size) (fun g e => by have := Option.some.inj e; omega) HB3.out.size))
  obtain ⟨⟨r0, r1, r2, r3⟩, rc⟩ := r
  dsimp only at hg4
  obtain ⟨u0, u1, u2, u3⟩ := hg4.four'
  obtain ⟨y0, y1, y2, y3⟩ := HE4.out.froz4
  obtain ⟨d0, d1, d2, d3⟩ := HE4.out.four'
  have hl1 := HE4.out.lt
  clear hg4 ho4 x0 x1 x2 k0
  go_wp2_with fail
  refine bodyPost_ret (res_ent' rfl _ _ (w.heap.size + 3) rfl (HE4.out.all4 _ _ _ _)) rfl ?_
  exact ⟨rfl, below_four HB4.out (by omega) _ _ _ _⟩
end Go.Proofs.YtdlkgpobjacgeaaGreatDoor

/-
  The walk of laws.FnExactTableGet.
-/
namespace Go.Proofs.YtdlkgpobjacgeaaGreatDoor
open Go.ChangeShapes Go.WideShapes Go.ChangeAt Go.RowKit

set_option maxHeartbeats 2000000 in
set_option maxRecDepth 20000 in
theorem law_TableGet (a : Option Addr) (cap : Nat) (P : List PartE) (b : ByteArray) (x : Int) (key : ByteArray) (q : Int) (w : World) (hr : elPart.Rd w w.heap.size a P) (hl : P.length ≤ maxLen) (hk : ∀ z ∈ P, camePart z) (hb : b.size ≤ maxLen) (_ : (Lit.int .i64 x).wf = true) (_ : key.size ≤ maxLen) (_ : (Lit.int .i64 q).wf = true) (h0 : 0 < w.heap.size) (hT : Hid (CrcTabIn w)) :
    Calls Tryz.prog 4 #[.agg #[.slice a P.length cap, .string b, .int .i64 x], .string key, .int .i64 q] w (TruePost w) := by
  by_cases hbig : 1048576 < key.size
  · have hd : decide ((1048576 : Int) < key.size) = true := decide_eq_true (by omega)
    go_enter Tryz.func4, Tryz.ntmps4
    go_wp2_with fail
    go_ret
    exact ⟨rfl, (Below.refl _ w).alloc (Nat.le_refl _) _⟩
  have hd : decide ((1048576 : Int) < key.size) = false := decide_eq_false (by omega)
  have HKY := hide (show key.size ≤ 1048576 by omega)
  clear hbig
  have HR := hide hr
  have HL := hide hl
  have HB0 := hide ((Below.refl _ w).alloc (Nat.le_refl _) (.cells #[.slice a P.length cap, .string b, .int .i64 x] 45))
  have HX0 := hide (BoxV.new 45 w #[.slice a P.length cap, .string b, .int .i64 x])
  have HSZ := hide (fun W (h : Below w.heap.size w W) => szTable_any a cap P b x 1048576 W ((HR.out.below h (Nat.le_refl _)).mono h.size) hl (fun z hz => camePart_sz hk z hz) hb (by omega) (by omega))
  have HTO := hide (fun W (h : Below w.heap.size w W) (h2 : P.length ≤ 1048576) => toTable_any a cap P b x W ((HR.out.below h (Nat.le_refl _)).mono h.size) h2)
  have HSP := hide (fun W g (hf : tabFit P b) (h : elPart.Holds W g P) => sTableGet_any (some ⟨g, 0, none⟩) P.length P b key x q W h.rd hf.1.1 (fun z hz => (hf.1.2 z hz).2) hb HKY.out)
  have HIM := hide (fun W g (hf : tabFit P b) (h : elPart.Holds W g P) (h3 : Below w.heap.size w W) => iTableGet_any (some ⟨g, 0, none⟩) P.length P b key x q W h.rd hl (Nat.le_refl _) (fun z hz => (hf.1.2 z hz).2) hb HKY.out (Nat.lt_of_lt_of_le h0 h3.size) (hide (hT.out.below h3 h0)))
  have HEQ := hide (fun W a1 a2 c1 c2 (h1 : elPart.Rd W W.heap.size a1 P) (h2 : elPart.Rd W W.heap.size a2 P) (hf : tabFit P b) => eqTable_same a1 a2 c1 c2 P b x W h1 h2 (by have := hf.1.1; omega))
  unfold GetPost at HSP HIM
  obtain ⟨⟨⟨f0, f1, f2, f3⟩, n⟩, hX⟩ : ∃ X, X = getT (P, b, x) key q := ⟨_, rfl⟩
  rw [← hX] at HSP HIM
  clear hX hr hl hk hb hT h0 HKY
  go_enter Tryz.func4, Tryz.ntmps4
  go_wp2_with fail
  refine (HSZ.out _ HB0.out).mono ?_
  rintro e w1 ⟨y, rfl, hy0, hy1, hP, hb1⟩
  have HP := hide hP
  have HB1 := hide (HB0.out.trans (hb1.mono HB0.out.size))
  have HX1 := hide (HX0.out.below hb1 HX0.out.lt)
  clear hP hb1 HSZ HB0 HX0
  by_cases hy : y < 0
  · go_wp2_with fail
    go_ret
    exact ⟨rfl, HB1.out⟩
  have HZ := hide (HP.out (by omega))
  obtain ⟨c0, c1, c2⟩ := HX1.out.three
  clear HP
  go_wp2_with fail
  refine (HTO.out _ HB1.out HZ.out.1.1).mono ?_
  rintro e w2 ⟨g2, rfl, hg2, hz2, hh2, hb2⟩
  have HB2 := hide (HB1.out.trans (hb2.mono HB1.out.size))
  have HX2 := hide (HX1.out.below hb2 HX1.out.lt)
  have HH2 := hide hh2
  clear c0 c1 c2 hb2 hh2 HB1 HX1
  go_wp2_with fail
  refine (HSP.out _ _ HZ.out HH2.out).mono ?_
  rintro e w3 ⟨rfl, hb3⟩
  obtain ⟨W3, hW3⟩ : ∃ W3, W3 = w3.alloc (.cells #[.string f0, .int .i64 f1, .bool f2, .string f3] 30) := ⟨_, rfl⟩
  have HX3 := hide (show BoxV 45 W3 w.heap.size _ from hW3 ▸ (HX2.out.below hb3 HX2.out.lt).alloc _)
  have HB3 := hide (show Below w.heap.size w W3 from hW3 ▸ (HB2.out.trans (hb3.mono HB2.out.size)).alloc (Nat.le_trans HB2.out.size hb3.size) _)
  have HY3 := hide (show BoxV 30 W3 w3.heap.size #[.string f0, .int .i64 f1, .bool f2, .string f3] from hW3 ▸ BoxV.new 30 w3 _)
  obtain ⟨c0, c1, c2⟩ := (HX2.out.below hb3 HX2.out.lt).three
  have hl3 := (HX2.out.below hb3 HX2.out.lt).lt
  clear hb3 HB2 HX2 HH2 HSP
  go_wp2_with fail
  rw [← hW3]
  clear hW3 c0 c1 c2 hl3
  -- the argument
  refine (HTO.out _ HB3.out HZ.out.1.1).mono ?_
  rintro e w4 ⟨gx, rfl, hgx, hzx, hh4, hb4⟩
  have HB4 := hide (HB3.out.trans (hb4.mono HB3.out.size))
  have HX4 := hide (HX3.out.below hb4 HX3.out.lt)
  have HY4 := hide (HY3.out.below hb4 HY3.out.lt)
  have HH4 := hide hh4
  clear hb4 hh4 HB3 HX3 HY3
  obtain ⟨W5, hW5⟩ : ∃ W5, W5 = w4.alloc (.cells #[.slice (some ⟨gx, 0, none⟩) P.length P.length, .string b, .int .i64 x] 26) := ⟨_, rfl⟩
  have HX5 := hide (show BoxV 45 W5 w.heap.size _ from hW5 ▸ HX4.out.alloc _)
  have HB5 := hide (show Below w.heap.size w W5 from hW5 ▸ HB4.out.alloc HB4.out.size _)
  have HY5 := hide (show BoxV 30 W5 w3.heap.size _ from hW5 ▸ HY4.out.alloc _)
  have HZ5 := hide (show BoxV 26 W5 w4.heap.size _ from hW5 ▸ BoxV.new 26 w4 #[.slice (some ⟨gx, 0, none⟩) P.length P.length, .string b, .int .i64 x])
  have HH5 := hide (show elPart.Holds W5 gx P from hW5 ▸ HH4.out.below ((Below.refl w4.heap.size w4).alloc (Nat.le_refl _) _) hzx)
  have hz5 : w4.heap.size < W5.heap.size := HZ5.out.lt
  clear HB4 HX4 HH4 HY4
  go_wp2_with fail
  rw [← hW5]
  clear hW5
  -- the answer
  refine (HIM.out _ _ HZ.out HH5.out HB5.out).mono ?_
  rintro e w6 ⟨rfl, hb6⟩
  obtain ⟨W6, hW6⟩ : ∃ W6, W6 = w6.alloc (.cells #[.string f0, .int .i64 f1, .bool f2, .string f3] 30) := ⟨_, rfl⟩
  have HB6 := hide (show Below w.heap.size w W6 from hW6 ▸ (HB5.out.trans (hb6.mono HB5.out.size)).alloc (Nat.le_trans HB5.out.size hb6.size) _)
  have HX6 := hide (show BoxV 45 W6 w.heap.size _ from hW6 ▸ (HX5.out.below hb6 HX5.out.lt).alloc _)
  have HY6 := hide (show BoxV 30 W6 w3.heap.size _ from hW6 ▸ (HY5.out.below hb6 HY5.out.lt).alloc _)
  have HZ6 := hide (show BoxV 26 W6 w4.heap.size _ from hW6 ▸ (HZ5.out.below hb6 HZ5.out.lt).alloc _)
  have HH6 := hide (show elPart.Holds W6 gx P from hW6 ▸ (HH5.out.below hb6 (by omega)).below ((Below.refl w6.heap.size w6).alloc (Nat.le_refl _) _) (by have := hb6.size; omega))
  have hz6 : W5.heap.size ≤ W6.heap.size := by rw [hW6]; have := hb6.size; simp; omega
  obtain ⟨y0, y1, y2, y3⟩ := (HY5.out.below hb6 HY5.out.lt).four'
  have hl6 := (HY5.out.below hb6 HY5.out.lt).lt
  clear hb6 HB5 HX5 HY5 HZ5 HH5 HIM
  go_wp2_with fail
  rw [← hW6]
  clear hW6 y0 y1 y2 y3 hl6
  refine (eqEnt_same f0 f1 f2 f3 _).mono ?_
  rintro e w7 ⟨rfl, hb7⟩
  have HB7 := hide (HB6.out.trans (hb7.mono HB6.out.size))
  have HX7 := hide (HX6.out.below hb7 HX6.out.lt)
  have HZ7 := hide (HZ6.out.below hb7 HZ6.out.lt)
  have HH7 := hide (HH6.out.below hb7 (by omega))
  have hz7 := hb7.size
  obtain ⟨c0, c1, c2⟩ := HX7.out.three
  obtain ⟨d0, d1, d2⟩ := HZ7.out.three
  clear hb7 HB6 HX6 HY6 HZ6 HH6
  go_wp2_with fail
  go_region_held3 (fun w' => (w'.cell? ⟨w.heap.size, 0, none⟩ = some (.slice a P.length cap) ∧ w'.cell? ⟨w.heap.size, 1, none⟩ = some (.string b) ∧ w'.cell? ⟨w.heap.size, 2, none⟩ = some (.int .i64 x)) ∧
      (w'.cell? ⟨w4.heap.size, 0, none⟩ = some (.slice (some ⟨gx, 0, none⟩) P.length P.length) ∧ w'.cell? ⟨w4.heap.size, 1, none⟩ = some (.string b) ∧ w'.cell? ⟨w4.heap.size, 2, none⟩ = some (.int .i64 x)))
    (first
      | with_reducible exact ⟨HX7.out.three, HZ7.out.three⟩
      | with_reducible exact ⟨HX7.out.drew.three, HZ7.out.drew.three⟩
      | with_reducible exact ⟨HX8.out.three, HZ8.out.three⟩
      | with_reducible exact ⟨HX9.out.three, HZ9.out.three⟩)
    (first
      | (go_at_call 18
         refine (HTO.out _ HB7.out.drew HZ.out.1.1).mono ?_
         rintro e w8 ⟨g8, rfl, hg8, hz8, hh8, hb8⟩
         have hb8' := below_drew' hb8
         have HB8 := hide (HB7.out.trans (hb8'.mono HB7.out.size))
         have HX8 := hide (HX7.out.below hb8' HX7.out.lt)
         have HZ8 := hide (HZ7.out.below hb8' HZ7.out.lt)
         have HH8 := hide (HH7.out.below hb8' (by omega))
         have HG8 := hide hh8
         clear hb8 hb8' hh8)
      | (go_at_call 20
         refine (HEQ.out _ _ _ _ _ HH8.out.rd HG8.out.rd HZ.out).mono ?_
         rintro e w9 ⟨rfl, hb9⟩
         have HB9 := hide (HB8.out.trans (hb9.mono HB8.out.size))
         have HX9 := hide (HX8.out.below hb9 HX8.out.lt)
         have HZ9 := hide (HZ8.out.below hb9 HZ8.out.lt)
         clear hb9))
  go_wp2_with fail
  go_ret
  exact ⟨rfl, HB9.out⟩
end Go.Proofs.YtdlkgpobjacgeaaGreatDoor
