/-
  Texts of this proof, put together: TabI.
-/
import Derived.Test.YtdlkgpobjacgeaaDoorPackBJ
import Derived.Test.YtdlkgpobjacgeaaDoorPackBF
import Derived.Maps.AppendAt

/-
  Contract of impl.partsOf.
-/
namespace Go.Proofs.YtdlkgpobjacgeaaDoor
open Go.ChangeShapes Go.WideShapes Go.ChangeAt Go.RowKit Go.Shelf
attribute [local go_sem] Oper.semAt_some

/-- the parts of these chunks -/
def prtsX (L : List En) (pre : List Nat) : List PartE := pre.map fun k => prtOf (chunkL L (cI L.length k))
theorem prtsX_len (L : List En) (pre : List Nat) : (prtsX L pre).length = pre.length := by simp [prtsX]
theorem prtsX_all (L : List En) : prtsX L (List.range ((L.length + 5) / 6)) = partsL L := by
  unfold prtsX partsL chunks
  refine List.map_congr_left fun k hk => ?_
  rw [List.mem_range] at hk
  rw [cI_of (by omega)]
theorem prtsX_snoc (L : List En) (pre : List Nat) (x : Nat) : prtsX L (pre ++ [x]) = prtsX L pre ++ [prtOf (chunkL L (cI L.length x))] := by simp [prtsX]
theorem chunk_len (L : List En) (k : Nat) : (chunkL L k).length = min 6 (L.length - 6 * k) := by
  unfold chunkL
  rw [List.length_take, List.length_drop]
theorem chunk_last {L : List En} {k y : Nat} {x : En} (hy : (chunkL L k).length = y + 1) (hx : L[6 * k + y]? = some x) : lastE (chunkL L k) = x.1 := by
  refine lastE_get ?_
  rw [List.getLast?_eq_getElem?, hy, Nat.add_sub_cancel, ← hx]
  unfold chunkL at hy ⊢
  rw [List.length_take] at hy
  rw [List.getElem?_take, if_pos (by omega), List.getElem?_drop]
theorem part_done {w3 V w2 w9 : World} {gx p : Nat} {aP : Option Addr} {cP : Nat} {M N : List PartE} {lit : Array Value} {v9 : Value} (hgx : gx < w3.heap.size) (hV : Boxed V gx 24 (.slice aP p cP)) (hO : elPart.Owns w3.heap.size V (.slice aP p cP) M) (hT : Turn6 w3.heap.size gx w3 V) (hb : Below V.heap.size V w2)
    (hN : Only (Value.slice aP p cP).ownBlock (w2.alloc (.cells lit 55)) w9) (hO9 : elPart.Owns w3.heap.size w9 v9 N) :
    (KeepsOthers V (w9.setCell ⟨gx, 0, none⟩ v9) ∧ Turn6 w3.heap.size gx V (w9.setCell ⟨gx, 0, none⟩ v9) ∧ Boxed (w9.setCell ⟨gx, 0, none⟩ v9) gx 24 v9 ∧ elPart.Owns w3.heap.size (w9.setCell ⟨gx, 0, none⟩ v9) v9 N) ∧ w9.cell? ⟨gx, 0, none⟩ = some (.slice aP p cP) ∧ w9.frozen? ⟨gx, 0, none⟩ = false ∧ gx < w9.heap.size := by
  have hs := hT.size
  have hal := (Below.refl w2.heap.size w2).alloc (Nat.le_refl _) (.cells lit 55)
  have hb2 : Below V.heap.size V (w2.alloc (.cells lit 55)) := hb.trans (hal.mono hb.size)
  have h9 : BoxV 24 w9 gx #[.slice aP p cP] := BoxV.other (show BoxV 24 (w2.alloc (.cells lit 55)) gx #[.slice aP p cP] from (hb2.block gx (by omega)).trans hV) (hO.below hb2 (Nat.le_refl _)) (by decide) hN
  have hT9 : Turn6 w3.heap.size gx V w9 := (Turn6.of_below hb2 hs).trans (Turn6.of_only hN (fun k hk => (hO.lt k hk).1) (by have := hb2.size; omega))
  refine ⟨⟨⟨?_, fun k o hk ho => ?_⟩, hT9.trans (Turn6.set 0 w9 v9), h9.set (i := 0) v9, hO9.set_other hgx v9⟩, h9.cell 0 _ rfl, h9.frozen 0, h9.lt⟩
  · have := hT9.size
    simpa using this
  · have hkl : k < V.heap.size := (Array.getElem?_eq_some_iff.1 hk).1
    have hne : k ≠ gx := by
      rintro rfl
      have h1 : V.heap[k]? = _ := hV
      rw [h1] at hk
      injection hk with hk
      subst hk
      cases ho
    rw [heap_setCell_other w9 ⟨gx, 0, none⟩ k v9 hne, hN.block k (by have := hb2.size; omega) (fun e => by
      obtain ⟨_, cs, hc⟩ := hO.type k e.symm
      rw [hc] at hk
      injection hk with hk
      subst hk
      cases ho), hb2.block k hkl]
    exact hk
def PartsPost (w : World) (L : List PartE) (e : Ending) (w' : World) : Prop := ∃ v, e = .returned v ∧ elPart.Owns w.heap.size w' v L ∧ Below w.heap.size w w'

set_option maxRecDepth 100000 in
set_option maxHeartbeats 4000000 in
theorem partsOf_any (b off cap : Nat) (L : List En) (w : World) (hr : elEnt.Rd w w.heap.size (some ⟨b, off, none⟩) L) (h0 : 0 < L.length) (hl : L.length ≤ 60) (hcap : L.length ≤ cap) :
    Calls Tryd.prog 31 #[.slice (some ⟨b, off, none⟩) L.length cap] w (PartsPost w (partsL L)) := by
  have HR := hide hr
  obtain ⟨b', off', eb, hbw, _⟩ := hr h0
  injection eb with eb
  injection eb with eb1 eb2
  subst eb1 eb2
  clear hr
  have HALL := hide (prtsX_all L)
  have HSN := hide (prtsX_snoc L)
  have HLEN := hide (prtsX_len L)
  obtain ⟨n, hn⟩ : ∃ n, n = L.length := ⟨_, rfl⟩
  have HN := hide hn
  rw [← hn] at h0 hl hcap HALL HSN ⊢
  clear hn
  refine (callsIn_wide (n := 6)).1 ?_
  refine callsIn_of_wp_marks Tryd.func31 rfl trivial ?_ rfl
  simp only [Tryd.ntmps31, List.size_toArray, List.length_cons, List.length_nil, Nat.reduceAdd, Nat.reduceSub, Array.replicate_succ, Array.replicate_zero, List.push_toArray, List.append_toArray, List.nil_append, List.cons_append]
  gi_wp2
  refine ⟨trivial, (chunk_in _ _ _ _ _).mono ?_⟩
  rintro e w3 ⟨rfl, hw3⟩
  have hs3 : w3.heap.size = w.heap.size + 3 := by rw [hw3]; simp
  have HB3 := hide (show Below w.heap.size w w3 by rw [hw3]; exact (((Below.refl _ _).alloc (Nat.le_refl _) _).alloc (by simp) _).alloc (by simp <;> omega) _)
  have HL := hide (show Boxed w3 w.heap.size 24 (.slice none 0 0) by
    rw [hw3]
    exact ((Boxed.new w 24 (.slice none 0 0)).alloc _).alloc _)
  have HS := hide (show Boxed w3 (w.heap.size + 1) 29 (.slice (some ⟨b, off, none⟩) n cap) by
    rw [hw3]
    have := (Boxed.new (w.alloc (.cells #[.slice none 0 0] 24)) 29 (.slice (some ⟨b, off, none⟩) n cap)).alloc (.cells #[.int .i64 6] 3)
    rwa [Go.Deep.nblk_alloc] at this)
  have HZ := hide (show Boxed w3 (w.heap.size + 2) 3 (.int .i64 6) by
    rw [hw3]
    have := Boxed.new ((w.alloc (.cells #[.slice none 0 0] 24)).alloc (.cells #[.slice (some ⟨b, off, none⟩) n cap] 29)) 3 (.int .i64 6)
    rwa [Go.Deep.nblk_alloc, Go.Deep.nblk_alloc] at this)
  simp only [Go.Deep.nblk_alloc]
  have hadd : w.heap.size + 1 + 1 = w.heap.size + 2 := rfl
  rw [hadd]
  clear hw3 hadd
  gi_wp2
  have hseq := chunk_stops (6 - 1) (by omega) (w.heap.size + 1) (w.heap.size + 2) w.heap.size b off cap n hl hcap w3 (by omega) (by omega) (by omega) (by omega) HS.out.cell HZ.out.cell
  refine wpIn_rangeFunc_ownF rfl (by omega) (gf := 83) (lb := #[.pointer (some ⟨w.heap.size + 1, 0, none⟩), .pointer (some ⟨w.heap.size + 2, 0, none⟩)]) rfl trivial (enters_of Tryd.func83 (by kernel_rfl) rfl)
    (encs := encC b off n) (Kp := Turn6 w3.heap.size w.heap.size) (S := fun ys => ys = List.range ((n + 5) / 6)) (Sp := fun pre => pre <+: List.range ((n + 5) / 6)) (N := (n + 5) / 6) (w0 := w3) hseq
    (fun h k => h.trans k) (fun V l o o' hle ho _ _ => Turn6.putObj V l o' hle (Array.getElem?_eq_some_iff.1 ho).1) (Below.refl _ _) (fun _ => rfl)
    (fun pre V => (∃ v, Boxed V w.heap.size 24 v ∧ V.ownsRow w3.heap.size 55 2 v pre.length (elPart.vals (prtsX L pre)) ∧ True) ∧ Turn6 w3.heap.size w.heap.size w3 V)
    (fun _ _ _ => False)
    (OwnFrom.and (Own.from (holdsRow_own _ _ _ _ _ (fun pre : List Nat => pre.length) (fun pre => elPart.vals (prtsX L pre)) (fun _ _ => True)) _) (fun _ X Y row hs hg hr => hs.trans ⟨hg.os, hg.tape, hg.output, hg.size, fun i hi _ => hg.block i (by have := hs.size; omega) (fun e => by have := (hr i e.symm).1; omega)⟩))
    (fun _ _ _ _ _ hs _ _ => hs)
    ⟨⟨_, HL.out, El.Owns.nil (e := elPart) _ _, trivial⟩, Turn6.refl _ _ _⟩
    (fun x => { tmps := #[.slice (some ⟨b, off, none⟩) n cap, undef, .slice none 0 0, .pointer (some ⟨w.heap.size, 0, none⟩), .slice (some ⟨b, off + 6 * cI n x * 4, none⟩) (min 6 (n - 6 * cI n x)) (min 6 (n - 6 * cI n x)), .slice (some ⟨b, off, none⟩) n cap, .func (.func 83) #[] #[.pointer (some ⟨w.heap.size + 1, 0, none⟩), .pointer (some ⟨w.heap.size + 2, 0, none⟩)], .slice (some ⟨b, off + 6 * cI n x * 4, none⟩) (min 6 (n - 6 * cI n x)) (min 6 (n - 6 * cI n x)), undef, undef, undef, undef, undef, undef, undef, undef, undef, undef, undef, undef, undef, undef], defers := [] }) ?assign ?body ?done ?stop
  case assign =>
    intro l x V K hK
    dsimp only [encC]
    gi_wp2
    exact hK
  case body =>
    rintro l pre x V ⟨⟨v, hv, hrow, _⟩, hT⟩ hpl
    have hsz := hT.size
    have hBV : Below w.heap.size w V := HB3.out.trans ⟨hT.os, hT.tape, hT.output, hT.size, fun i hi => hT.block i (by omega) (by omega)⟩
    have HBV := hide hBV
    have HSNx := hide (HSN.out pre x)
    have hkn := cI_lt h0 x
    have HOP := hide (show elPart.Owns w3.heap.size V v (prtsX L pre) from by
      unfold El.Owns
      rw [HLEN.out]
      exact hrow)
    obtain ⟨aP, cP, rfl, _⟩ := HOP.out.form
    have hpl2 : (prtsX L pre).length = pre.length := HLEN.out pre
    obtain ⟨p, hp⟩ : ∃ p, p = (prtsX L pre).length := ⟨_, rfl⟩
    rw [← hp] at hv HOP hpl2
    have hp10 : p ≤ 20 := by omega
    obtain ⟨k, hk⟩ : ∃ k, k = cI n x := ⟨_, rfl⟩
    rw [← hk] at hkn ⊢
    obtain ⟨z, hz⟩ : ∃ z, z = min 6 (n - 6 * k) := ⟨_, rfl⟩
    rw [← hz]
    obtain ⟨y, hy⟩ : ∃ y, z = y + 1 := ⟨z - 1, by omega⟩
    obtain ⟨o1, ho1⟩ : ∃ o1, o1 = off + 6 * k * 4 := ⟨_, rfl⟩
    rw [← ho1]
    have hcl : (chunkL L k).length = z := by rw [chunk_len, ← HN.out, hz]
    have hjL : 6 * k + y < L.length := by rw [← HN.out]; omega
    obtain ⟨f0, f1, f2, f3, hx⟩ := partsEnt (L[6 * k + y]'hjL)
    have HX := hide (show L[6 * k + y]? = some (f0, f1, f2, f3) by rw [List.getElem?_eq_getElem hjL, hx])
    have hkey := chunk_last (hcl.trans hy) HX.out
    have HPN := hide (show prtsX L (pre ++ [x]) = prtsX L pre ++ [(f0, ⟨(showK (chunkL L k)).toArray⟩)] by rw [HSNx.out, ← hk, prtOf, hkey])
    have hd0 : w.cell? ⟨b, o1 + y * 4, none⟩ = some (.string f0) := by
      obtain ⟨_, _, e, _, hc⟩ := HR.out (by omega)
      injection e with e
      injection e with e1 e2
      subst e1 e2
      have := hc (6 * k + y) hjL 0 (by decide)
      rw [hx] at this
      rw [show o1 + y * 4 = off + (6 * k + y) * 4 + 0 by omega]
      exact this
    have HKC := hide (fun (W : World) (h : Below w.heap.size w W) => show W.cell? ⟨b, o1 + y * 4, none⟩ = some (.string f0) from (h.cell (p := ⟨b, o1 + y * 4, none⟩) hbw).trans hd0)
    have HSC := hide (fun (W : World) (h : Below w.heap.size w W) => iShowBlock_any (some ⟨b, o1, none⟩) z (chunkL L k) W (by
      have h1 := ((HR.out.below h (Nat.le_refl _)).mono h.size).slice (6 * k) z (by rw [← HN.out]; omega)
      rw [show off + 6 * k * elEnt.c = o1 from ho1.symm] at h1
      have h2 : (L.drop (6 * k)).take z = chunkL L k := by
        unfold chunkL
        by_cases h6 : z = 6
        · rw [h6]
        · rw [List.take_of_length_le (by rw [List.length_drop, ← HN.out]; omega), List.take_of_length_le (by rw [List.length_drop, ← HN.out]; omega)]
      rw [h2] at h1
      exact h1) (by omega))
    rw [hcl] at HSC
    obtain ⟨ST, hST⟩ : ∃ ST, ST = showK (chunkL L k) := ⟨_, rfl⟩
    rw [← hST] at HSC HPN
    have hsub : IntKind.i64.wrap ((z : Int) - 1) = (y : Int) := by rw [IntKind.wrap_i64]; omega
    have hsub2 : (z : Int) - 1 = (y : Int) := by omega
    have hwy : IntKind.i64.wrap (y : Int) = (y : Int) := by rw [IntKind.wrap_i64]; omega
    have hyz : y < z := by omega
    have hc := hv.cell
    have HV := hide hv
    have HT := hide hT
    have hpl3 : (prtsX L (pre ++ [x])).length = p + 1 := by rw [HLEN.out, List.length_append, ← hpl2]; rfl
    have HLP := hide (show (pre ++ [x]).length = p + 1 by rw [List.length_append, ← hpl2]; rfl)
    clear hk hz hy ho1 hcl hjL hx hkey hd0 hST hp hpl2 hkn hrow hBV hv hT hpl
    gi_wp2
    refine region_round (S := fun w' => w'.cell? ⟨b, o1 + y * 4, none⟩ = some (.string f0)) (by kernel_rfl) (by kernel_rfl) (fun ⟨_, _, h⟩ => h) (HKC.out _ HBV.out.drew) (fun hHeld => ?_)
    refine wpAnyH_take (i := 1) (v := ?_) rfl (by kernel_rfl) (by kernel_rfl) (by kernel_rfl) (fun _ _ _ h => h) (Or.inl ⟨by rfl, ?_⟩) (by assumption) ?_
    rotate_left 1
    · intro w hSw
      (try dsimp only at hSw)
      go_simp
      try with_reducible rfl
    go_simp
    refine wpAnyH_take (i := 2) (v := ?_) rfl (by kernel_rfl) (by kernel_rfl) (by kernel_rfl) (fun _ _ _ h => h) (Or.inl ⟨by rfl, ?_⟩) (by assumption) ?_
    rotate_left 1
    · intro w hSw
      (try dsimp only at hSw)
      go_simp
      try with_reducible rfl
    go_simp
    refine wpAnyH_take (i := 3) (v := ?_) rfl (by kernel_rfl) (by kernel_rfl) (by kernel_rfl) (fun _ _ _ h => h) (Or.inl ⟨by rfl, ?_⟩) (by assumption) ?_
    rotate_left 1
    · intro w hSw
      (try dsimp only at hSw)
      go_simp
      try with_reducible rfl
    go_simp
    refine wpAnyH_take (i := 4) (v := ?_) rfl (by kernel_rfl) (by kernel_rfl) (by kernel_rfl) (fun _ _ _ h => h) (Or.inl ⟨by rfl, ?_⟩) (by assumption) ?_
    rotate_left 1
    · intro w hSw
      (try dsimp only at hSw)
      go_simp
      try with_reducible rfl
    go_simp
    refine wpAnyH_take (i := 5) (v := ?_) rfl (by kernel_rfl) (by kernel_rfl) (by kernel_rfl) (fun _ _ _ h => h) (Or.inl ⟨by rfl, ?_⟩) (by assumption) ?_
    rotate_left 1
    · intro w hSw
      (try dsimp only at hSw)
      go_simp
      try with_reducible rfl
    go_simp
    refine wpAnyH_take (i := 6) (v := ?_) rfl (by kernel_rfl) (by kernel_rfl) (by kernel_rfl) (fun _ _ _ h => h) (Or.inl ⟨by rfl, ?_⟩) (by assumption) ?_
    rotate_left 1
    · intro w hSw
      (try dsimp only at hSw)
      go_simp
      try with_reducible rfl
    go_simp
    refine wpAnyH_take (i := 7) (v := ?_) rfl (by kernel_rfl) (by kernel_rfl) (by kernel_rfl) (fun _ _ _ h => h) (Or.inl ⟨by rfl, ?_⟩) (by assumption) ?_
    rotate_left 1
    · intro w hSw
      (try dsimp only at hSw)
      go_simp
      try with_reducible rfl
    go_simp
    refine wpAnyH_take (i := 8) (v := ?_) rfl (by kernel_rfl) (by kernel_rfl) (by kernel_rfl) (fun _ _ _ h => h) (Or.inl ⟨by rfl, ?_⟩) (by assumption) ?_
    rotate_left 1
    · intro w hSw
      (try dsimp only at hSw)
      go_simp
      try with_reducible rfl
    go_simp
    refine wpAnyH_ready (rs := [0, 9]) (by kernel_rfl) (by simp) ?_
    refine AllReadyH.cons rfl (fun K hK => ?_) (AllReadyH.cons rfl (fun K hK => ?_) AllReadyH.nil)
    · go_simp
      refine hK.out _ _ hHeld (fun hHeld => ?_)
      clear hK K
      go_simp
      refine wpAnyH_ready (rs := [9]) (by kernel_rfl) (by simp) ?_
      refine AllReadyH.cons rfl (fun K hK => ?_) AllReadyH.nil
      go_simp
      go_at_call 62
      refine (HSC.out _ HBV.out.drew).mono ?_
      rintro e w2 ⟨rfl, hb2⟩
      have HW2 := hide (below_drew' hb2)
      have HB2 := hide (HBV.out.trans (HW2.out.mono HBV.out.size))
      clear hb2 hHeld
      refine hK.out _ _ (HKC.out _ HB2.out) (fun hHeld => ?_)
      clear hK K
      go_simp
      refine wpAnyH_take (i := 10) (v := ?_) rfl (by kernel_rfl) (by kernel_rfl) (by kernel_rfl) (fun _ _ _ h => h) (Or.inl ⟨by rfl, ?_⟩) (by assumption) ?_
      rotate_left 1
      · intro w hSw
        (try dsimp only at hSw)
        go_simp
        try with_reducible rfl
      go_simp
      have HBa := hide (HB2.out.alloc HB2.out.size (.cells #[.string f0, .string ⟨ST.toArray⟩] 55))
      have HOa := hide ((HOP.out.below HW2.out (Nat.le_refl _)).alloc (.cells #[.string f0, .string ⟨ST.toArray⟩] 55))
      have c2 : w2.cell? ⟨w.heap.size, 0, none⟩ = some (.slice aP p cP) := (HW2.out.cell (p := ⟨w.heap.size, 0, none⟩) (by show w.heap.size < _; omega)).trans hc
      have c3 : (w2.alloc (.cells #[.string f0, .string ⟨ST.toArray⟩] 55)).cell? ⟨w.heap.size, 0, none⟩ = some (.slice aP p cP) := (World.cell?_alloc_lt w2 _ ⟨w.heap.size, 0, none⟩ (by have h := HW2.out.size; show w.heap.size < w2.heap.size; omega)).trans c2
      refine wpAnyH_ready (rs := [11]) (by kernel_rfl) (by simp) ?_
      refine AllReadyH.cons rfl (fun K hK => ?_) AllReadyH.nil
      go_simp
      refine hK.out _ _ (HKC.out _ HBa.out) (fun hHeld => ?_)
      clear hK K
      go_simp
      refine wpAnyH_ready (rs := [12]) (by kernel_rfl) (by simp) ?_
      refine AllReadyH.cons rfl (fun K hK => ?_) AllReadyH.nil
      refine El.stepSrc (e := elPart) rfl (.tmp 8) (.tmp 19) 24 rfl Tryd.underlying24 _ _ infoPart rfl (by decide) (by decide) w3.heap.size (w2.alloc (.cells #[.string f0, .string ⟨ST.toArray⟩] 55)) (w2.alloc (.cells #[.string f0, .string ⟨ST.toArray⟩] 55)) _ _ 1 1 _ [(f0, ⟨ST.toArray⟩)] rfl rfl rfl HOa (fun j u h => El.lit_cells elPart w2 [(f0, ⟨ST.toArray⟩)] _ rfl j u h) (hide (Below.refl _ _)) (by have h := HW2.out.size; rw [Go.Deep.nblk_alloc]; omega) _ (p + 1) HPN.out.symm hpl3 (by omega) ?_
      intro a9 c9 w9 HO9 HB9 hz9 HN9
      obtain ⟨⟨q1, q2, q3, q4⟩, q5, q6, q7⟩ := part_done (by omega) HV.out HOP.out HT.out HW2.out HN9.out HO9.out
      have HB9' := hide (HBa.out.trans (HB9.out.mono (by omega)))
      refine hK.out _ _ (HKC.out _ HB9'.out) (fun hHeld => ?_)
      clear hK K
      go_simp
      refine wpAnyH_ready (rs := [13]) (by kernel_rfl) (by simp) ?_
      refine AllReadyH.cons rfl (fun K hK => ?_) AllReadyH.nil
      go_simp
      refine hK.out _ _ (HKC.out _ (HB9'.out.setCell (p := ⟨w.heap.size, 0, none⟩) (Nat.le_refl _) _)) (fun hHeld => ?_)
      clear hK K
      refine wpAnyH_done (by kernel_rfl) ?_ _
      refine ⟨q1, q2, ⟨_, q3, ?_, trivial⟩, HT.out.trans q2⟩
      rw [HLP.out]
      unfold El.Owns at q4
      rwa [hpl3] at q4
    · go_simp
      go_at_call 62
      refine (HSC.out _ HBV.out.drew).mono ?_
      rintro e w2 ⟨rfl, hb2⟩
      have HW2 := hide (below_drew' hb2)
      have HB2 := hide (HBV.out.trans (HW2.out.mono HBV.out.size))
      clear hb2 hHeld
      refine hK.out _ _ (HKC.out _ HB2.out) (fun hHeld => ?_)
      clear hK K
      go_simp
      refine wpAnyH_take (i := 10) (v := ?_) rfl (by kernel_rfl) (by kernel_rfl) (by kernel_rfl) (fun _ _ _ h => h) (Or.inl ⟨by rfl, ?_⟩) (by assumption) ?_
      rotate_left 1
      · intro w hSw
        (try dsimp only at hSw)
        go_simp
        try with_reducible rfl
      go_simp
      have HBa := hide (HB2.out.alloc HB2.out.size (.cells #[.string f0, .string ⟨ST.toArray⟩] 55))
      have HOa := hide ((HOP.out.below HW2.out (Nat.le_refl _)).alloc (.cells #[.string f0, .string ⟨ST.toArray⟩] 55))
      have c2 : w2.cell? ⟨w.heap.size, 0, none⟩ = some (.slice aP p cP) := (HW2.out.cell (p := ⟨w.heap.size, 0, none⟩) (by show w.heap.size < _; omega)).trans hc
      have c3 : (w2.alloc (.cells #[.string f0, .string ⟨ST.toArray⟩] 55)).cell? ⟨w.heap.size, 0, none⟩ = some (.slice aP p cP) := (World.cell?_alloc_lt w2 _ ⟨w.heap.size, 0, none⟩ (by have h := HW2.out.size; show w.heap.size < w2.heap.size; omega)).trans c2
      refine wpAnyH_ready (rs := [0, 11]) (by kernel_rfl) (by simp) ?_
      refine AllReadyH.cons rfl (fun K hK => ?_) (AllReadyH.cons rfl (fun K hK => ?_) AllReadyH.nil)
      · go_simp
        refine hK.out _ _ hHeld (fun hHeld => ?_)
        clear hK K
        go_simp
        refine wpAnyH_ready (rs := [11]) (by kernel_rfl) (by simp) ?_
        refine AllReadyH.cons rfl (fun K hK => ?_) AllReadyH.nil
        go_simp
        refine hK.out _ _ (HKC.out _ HBa.out) (fun hHeld => ?_)
        clear hK K
        go_simp
        refine wpAnyH_ready (rs := [12]) (by kernel_rfl) (by simp) ?_
        refine AllReadyH.cons rfl (fun K hK => ?_) AllReadyH.nil
        refine El.stepSrc (e := elPart) rfl (.tmp 8) (.tmp 19) 24 rfl Tryd.underlying24 _ _ infoPart rfl (by decide) (by decide) w3.heap.size (w2.alloc (.cells #[.string f0, .string ⟨ST.toArray⟩] 55)) (w2.alloc (.cells #[.string f0, .string ⟨ST.toArray⟩] 55)) _ _ 1 1 _ [(f0, ⟨ST.toArray⟩)] rfl rfl rfl HOa (fun j u h => El.lit_cells elPart w2 [(f0, ⟨ST.toArray⟩)] _ rfl j u h) (hide (Below.refl _ _)) (by have h := HW2.out.size; rw [Go.Deep.nblk_alloc]; omega) _ (p + 1) HPN.out.symm hpl3 (by omega) ?_
        intro a9 c9 w9 HO9 HB9 hz9 HN9
        obtain ⟨⟨q1, q2, q3, q4⟩, q5, q6, q7⟩ := part_done (by omega) HV.out HOP.out HT.out HW2.out HN9.out HO9.out
        have HB9' := hide (HBa.out.trans (HB9.out.mono (by omega)))
        refine hK.out _ _ (HKC.out _ HB9'.out) (fun hHeld => ?_)
        clear hK K
        go_simp
        refine wpAnyH_ready (rs := [13]) (by kernel_rfl) (by simp) ?_
        refine AllReadyH.cons rfl (fun K hK => ?_) AllReadyH.nil
        go_simp
        refine hK.out _ _ (HKC.out _ (HB9'.out.setCell (p := ⟨w.heap.size, 0, none⟩) (Nat.le_refl _) _)) (fun hHeld => ?_)
        clear hK K
        refine wpAnyH_done (by kernel_rfl) ?_ _
        refine ⟨q1, q2, ⟨_, q3, ?_, trivial⟩, HT.out.trans q2⟩
        rw [HLP.out]
        unfold El.Owns at q4
        rwa [hpl3] at q4
      · go_simp
        refine hK.out _ _ (HKC.out _ HBa.out) (fun hHeld => ?_)
        clear hK K
        go_simp
        refine wpAnyH_ready (rs := [0]) (by kernel_rfl) (by simp) ?_
        refine AllReadyH.cons rfl (fun K hK => ?_) AllReadyH.nil
        go_simp
        refine hK.out _ _ hHeld (fun hHeld => ?_)
        clear hK K
        go_simp
        refine wpAnyH_ready (rs := [12]) (by kernel_rfl) (by simp) ?_
        refine AllReadyH.cons rfl (fun K hK => ?_) AllReadyH.nil
        refine El.stepSrc (e := elPart) rfl (.tmp 8) (.tmp 19) 24 rfl Tryd.underlying24 _ _ infoPart rfl (by decide) (by decide) w3.heap.size (w2.alloc (.cells #[.string f0, .string ⟨ST.toArray⟩] 55)) (w2.alloc (.cells #[.string f0, .string ⟨ST.toArray⟩] 55)) _ _ 1 1 _ [(f0, ⟨ST.toArray⟩)] rfl rfl rfl HOa (fun j u h => El.lit_cells elPart w2 [(f0, ⟨ST.toArray⟩)] _ rfl j u h) (hide (Below.refl _ _)) (by have h := HW2.out.size; rw [Go.Deep.nblk_alloc]; omega) _ (p + 1) HPN.out.symm hpl3 (by omega) ?_
        intro a9 c9 w9 HO9 HB9 hz9 HN9
        obtain ⟨⟨q1, q2, q3, q4⟩, q5, q6, q7⟩ := part_done (by omega) HV.out HOP.out HT.out HW2.out HN9.out HO9.out
        have HB9' := hide (HBa.out.trans (HB9.out.mono (by omega)))
        refine hK.out _ _ (HKC.out _ HB9'.out) (fun hHeld => ?_)
        clear hK K
        go_simp
        refine wpAnyH_ready (rs := [13]) (by kernel_rfl) (by simp) ?_
        refine AllReadyH.cons rfl (fun K hK => ?_) AllReadyH.nil
        go_simp
        refine hK.out _ _ (HKC.out _ (HB9'.out.setCell (p := ⟨w.heap.size, 0, none⟩) (Nat.le_refl _) _)) (fun hHeld => ?_)
        clear hK K
        refine wpAnyH_done (by kernel_rfl) ?_ _
        refine ⟨q1, q2, ⟨_, q3, ?_, trivial⟩, HT.out.trans q2⟩
        rw [HLP.out]
        unfold El.Owns at q4
        rwa [hpl3] at q4
  case done =>
    rintro D ys V hD rfl ⟨⟨v, hv, hrow, _⟩, hT⟩ hK
    have hO := show elPart.Owns w3.heap.size V v (prtsX L (List.range ((n + 5) / 6))) from by
      unfold El.Owns
      rw [HLEN.out]
      exact hrow
    rw [HALL.out] at hO
    have HOW := hide hO
    obtain ⟨ax, cx, rfl, _⟩ := hO.form
    have hc := hv.cell
    clear hO hrow
    gi_wp2
    refine ⟨by simp, .inl ⟨_, _, rfl, run_takeDeferred hK, ?_⟩⟩
    have hBV : Below w.heap.size w V := HB3.out.trans ⟨hT.os, hT.tape, hT.output, hT.size, fun i hi => hT.block i (by omega) (by omega)⟩
    have hOV : elPart.Owns w.heap.size (V.putObj D (.deferred none)) (.slice ax (partsL L).length cx) (partsL L) := El.Owns.mono (e := elPart) (B := w3.heap.size) (show elPart.Owns _ _ _ _ from ownsRow_putObj HOW.out _ hK rfl) (by omega)
    refine ⟨.slice ax (partsL L).length cx, ?_, ⟨.slice ax (partsL L).length cx, rfl, hOV, hBV.trans (belowK_b (w := w) (Nat.le_refl _) V D _ _ (by omega) hK rfl rfl)⟩⟩
    simp [results, Tryd.f31, go_sem]
  case stop =>
    rintro D c pre V _ _ h _
    exact h.elim
end Go.Proofs.YtdlkgpobjacgeaaDoor
