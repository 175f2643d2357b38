/-
  Texts of this proof, put together: MapS, MapR.
-/
import Derived.Test.YtmdhihgfnlnbnaaPackAZ
import Derived.Test.YtmdhihgfnlnbnaaPackAU

/-
  The program's sorted map: two rows of strings behind a pointer. Contracts of its methods set and remove.
-/
namespace Go.Proofs.Ytmdhihgfnlnbnaa
open Go.ChangeShapes Go.WideShapes Go.ChangeAt Go.RowKit

theorem putK_yes {k v : ByteArray} {L : List KV} (h : hasK k L) : (putK k v L).map Prod.fst = L.map Prod.fst ∧ (putK k v L).map Prod.snd = (L.map Prod.snd).set (posK k L) v := by
  obtain ⟨hl, he⟩ := h
  have hh : hasK k L := ⟨hl, he⟩
  unfold putK
  rw [if_pos hh]
  have e0 : L = L.take (posK k L) ++ L[posK k L] :: L.drop (posK k L + 1) := by rw [List.getElem_cons_drop, List.take_append_drop]
  constructor
  · conv => rhs; rw [e0]
    rw [List.map_append, List.map_append, List.map_cons, List.map_cons]
    show _ ++ k :: _ = _ ++ (L[posK k L]).1 :: _
    rw [he]
  · conv => rhs; rw [e0]
    rw [List.map_append, List.map_append, List.map_cons, List.map_cons, List.set_append_right _ _ (by simp; omega)]
    simp [Nat.min_eq_left (Nat.le_of_lt hl)]
theorem putK_no {k v : ByteArray} {L : List KV} (h : ¬ hasK k L) : (putK k v L).map Prod.fst = (L.map Prod.fst).take (posK k L) ++ k :: (L.map Prod.fst).drop (posK k L) ∧ (putK k v L).map Prod.snd = (L.map Prod.snd).take (posK k L) ++ v :: (L.map Prod.snd).drop (posK k L) := by
  unfold putK
  rw [if_neg h]
  simp [List.map_take, List.map_drop]
theorem delK_yes {k : ByteArray} {L : List KV} (h : hasK k L) : (delK k L).map Prod.fst = (L.map Prod.fst).take (posK k L) ++ (L.map Prod.fst).drop (posK k L + 1) ∧ (delK k L).map Prod.snd = (L.map Prod.snd).take (posK k L) ++ (L.map Prod.snd).drop (posK k L + 1) := by
  unfold delK
  rw [if_pos h]
  simp [List.map_take, List.map_drop]

/-- of the blocks below B, block g alone may have turned -/
structure Turn (B g : Nat) (w w' : World) : Prop where
  os : w'.os = w.os
  tape : w'.tape = w.tape
  output : w'.output = w.output
  size : w.heap.size ≤ w'.heap.size
  block : ∀ i, i < B → i ≠ g → w'.heap[i]? = w.heap[i]?
theorem Turn.refl (B g : Nat) (w : World) : Turn B g w w := ⟨rfl, rfl, rfl, Nat.le_refl _, fun _ _ _ => rfl⟩
theorem Turn.trans {B g : Nat} {a b c : World} (h : Turn B g a b) (k : Turn B g b c) : Turn B g a c :=
  ⟨k.os.trans h.os, k.tape.trans h.tape, k.output.trans h.output, Nat.le_trans h.size k.size, fun i hi hg => (k.block i hi hg).trans (h.block i hi hg)⟩
theorem Turn.of_below {B B' g : Nat} {a b : World} (h : Below B' a b) (hB : B ≤ B') : Turn B g a b := ⟨h.os, h.tape, h.output, h.size, fun i hi _ => h.block i (by omega)⟩
theorem Turn.of_only {B g : Nat} {o : Option Nat} {a b : World} (h : Only o a b) (ho : ∀ k, o = some k → B ≤ k) (hB : B ≤ a.heap.size) : Turn B g a b :=
  Turn.of_below (h.below ho hB) (Nat.le_refl _)
theorem Turn.set {B g : Nat} (i : Nat) (w : World) (u : Value) : Turn B g w (w.setCell ⟨g, i, none⟩ u) :=
  ⟨rfl, rfl, rfl, by simp, fun j _ hj => heap_setCell_other w ⟨g, i, none⟩ j u hj⟩
theorem Turn.below {B g : Nat} {a b : World} (h : Turn B g a b) (hg : B ≤ g) : Below B a b := ⟨h.os, h.tape, h.output, h.size, fun i hi => h.block i hi (by omega)⟩

/-- two rows in blocks of their own hold the keys and the values -/
structure MapV (B : Nat) (w : World) (vk vv : Value) (L : List KV) : Prop where
  keys : elStr.Owns B w vk (L.map Prod.fst)
  vals : elStr.Owns B w vv (L.map Prod.snd)
  apart : ∀ a, vk.ownBlock = some a → vv.ownBlock ≠ some a
def MapIn (B : Nat) (w : World) (g : Nat) (L : List KV) : Prop := ∃ vk vv, BoxV 59 w g #[vk, vv] ∧ MapV B w vk vv L
theorem MapV.below {B B' : Nat} {w w' : World} {vk vv : Value} {L : List KV} (h : MapV B w vk vv L) (hb : Below B' w w') (hB : w.heap.size ≤ B') : MapV B w' vk vv L := ⟨h.keys.below hb hB, h.vals.below hb hB, h.apart⟩
theorem MapIn.below {B B' : Nat} {w w' : World} {g : Nat} {L : List KV} (h : MapIn B w g L) (hb : Below B' w w') (hB : w.heap.size ≤ B') : MapIn B w' g L := by
  obtain ⟨vk, vv, hx, hm⟩ := h
  exact ⟨vk, vv, hx.below hb (Nat.lt_of_lt_of_le hx.lt hB), hm.below hb hB⟩
/-- a box of a map is no row of strings -/
theorem own_ne_box {B : Nat} {w : World} {v : Value} {L : List ByteArray} {g : Nat} {vs : Array Value} (h : elStr.Owns B w v L) (hx : BoxV 59 w g vs) : v.ownBlock ≠ some g := by
  rcases ownStr_open h with ⟨rfl, _⟩ | ⟨g', cap, cur, rfl, _, _, hh, _⟩
  · intro e; cases e
  · intro e
    obtain rfl : g' = g := Option.some.inj e
    unfold BoxV at hx
    rw [hx] at hh
    injection hh with hh
    injection hh with _ hT _
    revert hT
    decide
theorem BoxV.two {T : TypeId} {w : World} {g : Nat} {v0 v1 : Value} (h : BoxV T w g #[v0, v1]) : w.cell? ⟨g, 0, none⟩ = some v0 ∧ w.cell? ⟨g, 1, none⟩ = some v1 := ⟨h.cell 0 v0 rfl, h.cell 1 v1 rfl⟩
theorem BoxV.only {T : TypeId} {w w' : World} {g : Nat} {vs : Array Value} {o : Option Nat} (h : BoxV T w g vs) (hk : Only o w w') (hne : o ≠ some g) : BoxV T w' g vs := (hk.block g h.lt (fun e => hne e.symm)).trans h
theorem El.Owns.only {α : Type} {e : El α} {B : Nat} {w w' : World} {v : Value} {L : List α} {o : Option Nat} (h : e.Owns B w v L) (hk : Only o w w') (hne : ∀ k, v.ownBlock = some k → o ≠ some k) : e.Owns B w' v L := by
  obtain ⟨hl, ⟨rfl, h0⟩ | ⟨g, cap, cur, rfl, hg, hh, hr⟩⟩ := h
  · exact ⟨hl, .inl ⟨rfl, h0⟩⟩
  · exact ⟨hl, .inr ⟨g, cap, cur, rfl, hg, (hk.block g (Array.getElem?_eq_some_iff.1 hh).1 (fun e => hne g rfl e.symm)).trans hh, hr⟩⟩

def SetPost (B g : Nat) (w : World) (M : List KV) (e : Ending) (w' : World) : Prop := e = .returned (.tuple #[]) ∧ MapIn B w' g M ∧ Turn B g w w'
set_option maxHeartbeats 2000000 in
set_option maxRecDepth 20000 in
theorem set_any (B g : Nat) (L : List KV) (hs : Srt L) (hl : L.length ≤ 1099511627775) (k x : ByteArray) (w : World) (hm : MapIn B w g L) (hB : B ≤ w.heap.size) :
    Calls Try.prog 40 #[.pointer (some ⟨g, 0, none⟩), .string k, .string x] w (SetPost B g w (putK k x L)) := by
  obtain ⟨vk, vv, hx, hmv⟩ := hm
  obtain ⟨ak, ck, hvk, _⟩ := hmv.keys.form
  obtain ⟨av, cv, hvv, _⟩ := hmv.vals.form
  rw [List.length_map] at hvk hvv
  have HX := hide hx
  have HM := hide hmv
  have HS := hide (fun W (h : elStr.Owns B W vk (L.map Prod.fst)) => search_any (B := B) (v := vk) L hs k W h (by omega))
  subst hvk hvv
  obtain ⟨n, hn⟩ : ∃ n, n = L.length := ⟨_, rfl⟩
  obtain ⟨P, hP⟩ : ∃ P, P = posK k L := ⟨_, rfl⟩
  have hPn : P ≤ n := by rw [hP, hn]; exact posK_le k L
  have HN := hide hn
  have HP := hide hP
  rw [← hn] at HX HM HS
  rw [← hP] at HS
  obtain ⟨c0, c1⟩ := HX.out.two
  have hlt := HX.out.lt
  clear hx hmv hP
  by_cases hh : hasK k L
  · rw [decide_eq_true hh] at HS
    have hPl : P < n := by obtain ⟨h, _⟩ := hh; rw [HP.out, hn]; exact h
    have HE := hide (putK_yes (v := x) hh)
    clear hh hn
    go_enter Try.func40, Try.ntmps40
    go_wp2_with fail
    refine (HS.out _ HM.out.keys).mono ?_
    rintro e w1 ⟨rfl, hb1⟩
    have HB1 := hide hb1
    have HX1 := hide (HX.out.below hb1 HX.out.lt)
    have HM1 := hide (HM.out.below hb1 (Nat.le_refl _))
    clear hb1 HS c0 c1 hlt
    obtain ⟨c0, c1⟩ := HX1.out.two
    have hlt := HX1.out.lt
    obtain ⟨gv, rfl, hgv, hgz⟩ := HM1.out.vals.pos (by rw [List.length_map, ← HN.out]; omega)
    have HLV := hide (show (L.map Prod.snd).length = n by rw [List.length_map, HN.out])
    have HQ := hide (show (L.map Prod.snd)[P]? = some ((L.map Prod.snd)[P]'(by rw [HLV.out]; exact hPl)) from List.getElem?_eq_getElem _)
    have q0 : w1.cell? ⟨gv, P, none⟩ = some (.string ((L.map Prod.snd)[P]'(by rw [HLV.out]; exact hPl))) := by
      have := HM1.out.vals.cellsAt HLV.out P _ HQ.out 0 (by decide)
      rw [show P * elStr.c + 0 = P by show P * 1 + 0 = P; omega] at this
      exact this
    have z0 := HM1.out.vals.frozenAt HLV.out P
    go_wp2_with fail
    have HV2 := hide (show elStr.Owns B (w1.setCell ⟨gv, P, none⟩ (.string x)) (.slice (some ⟨gv, 0, none⟩) n cv) ((L.map Prod.snd).set P x) by
      have := HM1.out.vals.setAt HLV.out P _ HQ.out 0 (by decide) (.string x) x rfl
      rw [show P * elStr.c + 0 = P by show P * 1 + 0 = P; omega] at this
      exact this)
    refine bodyPost_ret (results_none rfl _ _ _) rfl ?_
    refine ⟨rfl, ⟨_, _, HX1.out.set_other (p := ⟨gv, P, none⟩) (fun e => own_ne_box HM1.out.vals HX1.out (by rw [← e]; rfl)) _, ?_, ?_, HM1.out.apart⟩, ?_⟩
    · rw [HE.out.1]
      exact HM1.out.keys.set_ne (fun a ha e => HM1.out.apart a ha (by rw [e]; rfl)) _
    · rw [HE.out.2, ← HP.out]
      exact HV2.out
    · exact (Turn.of_below HB1.out hB).trans (Turn.of_below ((Below.refl B w1).setCell (p := ⟨gv, P, none⟩) hgv _) (Nat.le_refl _))
  · rw [decide_eq_false hh] at HS
    have HE := hide (putK_no (v := x) hh)
    rw [← HP.out] at HE
    clear hh hn
    have HIK := hide (fun W vb (h : elStr.Owns B W (.slice ak n ck) (L.map Prod.fst)) (hb : B ≤ W.heap.size) (hx : elStr.Holds W vb [k]) => insert_any (L.map Prod.fst) P k vb W h hb (by rw [List.length_map, ← HN.out]; exact hPn) (by rw [List.length_map]; omega) hx)
    have HIV := hide (fun W vb (h : elStr.Owns B W (.slice av n cv) (L.map Prod.snd)) (hb : B ≤ W.heap.size) (hx : elStr.Holds W vb [x]) => insert_any (L.map Prod.snd) P x vb W h hb (by rw [List.length_map, ← HN.out]; exact hPn) (by rw [List.length_map]; omega) hx)
    rw [← HE.out.1] at HIK
    rw [← HE.out.2] at HIV
    go_enter Try.func40, Try.ntmps40
    go_wp2_with fail
    refine (HS.out _ HM.out.keys).mono ?_
    rintro e w1 ⟨rfl, hb1⟩
    have HB1 := hide hb1
    have HX1 := hide (HX.out.below hb1 HX.out.lt)
    have HM1 := hide (HM.out.below hb1 (Nat.le_refl _))
    clear hb1 HS c0 c1 hlt
    obtain ⟨c0, c1⟩ := HX1.out.two
    have hlt := HX1.out.lt
    go_wp2_with fail
    have HMa := hide (HM1.out.below ((Below.refl w1.heap.size w1).alloc (Nat.le_refl _) (.cells #[.string k] 9)) (Nat.le_refl _))
    have HXa := hide (HX1.out.alloc (.cells #[.string k] 9))
    have hBa : B ≤ (w1.alloc (.cells #[.string k] 9)).heap.size := by have := HB1.out.size; simp; omega
    have hna : (Value.slice ak n ck).ownBlock ≠ some w1.heap.size := fun e => by have := (HM1.out.keys.lt _ e).2; omega
    refine (HIK.out _ _ HMa.out.keys hBa (El.Holds.new w1 [k]) hna).mono ?_
    rintro e w2 ⟨v2, rfl, ho2, hk2, hb2, hf2⟩
    have HV2 := hide (HMa.out.vals.only hk2 (fun a ha e => HMa.out.apart a e ha))
    have HX2 := hide (HXa.out.only hk2 (own_ne_box HMa.out.keys HXa.out))
    have HT2 := hide ((Turn.of_below (g := g) (HB1.out.trans (((Below.refl w1.heap.size w1).alloc (Nat.le_refl _) (.cells #[.string k] 9)).mono HB1.out.size)) hB).trans (Turn.of_only hk2 (fun a ha => (HMa.out.keys.lt a ha).1) hBa))
    have HA2 := hide (show ∀ a, v2.ownBlock = some a → (Value.slice av n cv).ownBlock ≠ some a from fun a ha e => by
      rcases hf2 a ha with h | h
      · exact HMa.out.apart a h e
      · have := (HM1.out.vals.lt a e).2
        simp at h
        omega)
    have HO2 := hide ho2
    obtain ⟨a2, c2, rfl, _⟩ := ho2.form
    obtain ⟨n2, hn2⟩ : ∃ n2, n2 = ((putK k x L).map Prod.fst).length := ⟨_, rfl⟩
    rw [← hn2] at HO2 HA2 ⊢
    clear hn2 ho2 hk2 hf2 HMa HXa HM1 HX1 HB1 hBa hna c0 c1 hlt HIK HX HM
    obtain ⟨c0, c1⟩ := HX2.out.two
    have z0 := HX2.out.frozen 0
    have hlt := HX2.out.lt
    go_wp2_with fail
    have HX3 := hide (show BoxV 59 (w2.setCell ⟨g, 0, none⟩ (.slice a2 n2 c2)) g #[.slice a2 n2 c2, .slice av n cv] from HX2.out.set (i := 0) _)
    have HO3 := hide (HO2.out.set_ne (p := ⟨g, 0, none⟩) (fun a ha e => own_ne_box HO2.out HX2.out (by rw [ha, e])) (.slice a2 n2 c2))
    have HV3 := hide (HV2.out.set_ne (p := ⟨g, 0, none⟩) (fun a ha e => own_ne_box HV2.out HX2.out (by rw [ha, e])) (.slice a2 n2 c2))
    have HT3 := hide (HT2.out.trans (Turn.set 0 w2 (.slice a2 n2 c2)))
    have hb3 : B ≤ (w2.setCell ⟨g, 0, none⟩ (.slice a2 n2 c2)).heap.size := by simp; exact hb2
    have hz3 : (w2.setCell ⟨g, 0, none⟩ (.slice a2 n2 c2)).heap.size = w2.heap.size := by simp
    obtain ⟨W3, hW3⟩ : ∃ W3, W3 = w2.setCell ⟨g, 0, none⟩ (.slice a2 n2 c2) := ⟨_, rfl⟩
    rw [← hW3] at HX3 HO3 HV3 HT3 hb3 hz3 ⊢
    rw [← hz3]
    clear hW3 hz3 HX2 HO2 HV2 HT2 hb2 c0 c1 z0 hlt
    have HMa := hide (HV3.out.alloc (.cells #[.string x] 9))
    have HOa := hide (HO3.out.alloc (.cells #[.string x] 9))
    have HXa := hide (HX3.out.alloc (.cells #[.string x] 9))
    have hBa : B ≤ (W3.alloc (.cells #[.string x] 9)).heap.size := by simp; omega
    have hna : (Value.slice av n cv).ownBlock ≠ some W3.heap.size := fun e => by have := (HV3.out.lt _ e).2; omega
    refine (HIV.out _ _ HMa.out hBa (El.Holds.new W3 [x]) hna).mono ?_
    rintro e w4 ⟨v4, rfl, ho4, hk4, hb4, hf4⟩
    have HK4 := hide (HOa.out.only hk4 (fun a ha e => HA2.out a ha e))
    have HX4 := hide (HXa.out.only hk4 (own_ne_box HMa.out HXa.out))
    have HT4 := hide ((HT3.out.trans (Turn.of_below ((Below.refl B W3).alloc hb3 (.cells #[.string x] 9)) (Nat.le_refl _))).trans (Turn.of_only hk4 (fun a ha => (HMa.out.lt a ha).1) hBa))
    have HA4 := hide (show ∀ a, (Value.slice a2 n2 c2).ownBlock = some a → v4.ownBlock ≠ some a from fun a ha e => by
      rcases hf4 a e with h | h
      · exact HA2.out a ha h
      · have := (HO3.out.lt a ha).2
        simp at h
        omega)
    have HO4 := hide ho4
    obtain ⟨a4, c4, rfl, _⟩ := ho4.form
    obtain ⟨n4, hn4⟩ : ∃ n4, n4 = ((putK k x L).map Prod.snd).length := ⟨_, rfl⟩
    rw [← hn4] at HO4 HA4 ⊢
    clear hn4 ho4 hk4 hf4 HMa HOa HXa HX3 HO3 HV3 HT3 hBa hna HIV
    obtain ⟨c0, c1⟩ := HX4.out.two
    have z1 := HX4.out.frozen 1
    have hlt := HX4.out.lt
    go_wp2_with fail
    refine bodyPost_ret (results_none rfl _ _ _) rfl ?_
    exact ⟨rfl, ⟨_, _, show BoxV 59 (w4.setCell ⟨g, 1, none⟩ (.slice a4 n4 c4)) g #[.slice a2 n2 c2, .slice a4 n4 c4] from HX4.out.set (i := 1) _,
      HK4.out.set_ne (p := ⟨g, 1, none⟩) (fun a ha e => own_ne_box HK4.out HX4.out (by rw [ha, e])) _, HO4.out.set_ne (p := ⟨g, 1, none⟩) (fun a ha e => own_ne_box HO4.out HX4.out (by rw [ha, e])) _, HA4.out⟩, HT4.out.trans (Turn.set 1 w4 _)⟩
end Go.Proofs.Ytmdhihgfnlnbnaa

/-
  Contract of the sorted map's method remove.
-/
namespace Go.Proofs.Ytmdhihgfnlnbnaa
open Go.ChangeShapes Go.WideShapes Go.ChangeAt Go.RowKit

set_option maxHeartbeats 2000000 in
set_option maxRecDepth 20000 in
theorem remove_any (B g : Nat) (L : List KV) (hs : Srt L) (hl : L.length ≤ 1099511627775) (k : ByteArray) (w : World) (hm : MapIn B w g L) (hB : B ≤ w.heap.size) :
    Calls Try.prog 39 #[.pointer (some ⟨g, 0, none⟩), .string k] w (SetPost B g w (delK k L)) := by
  obtain ⟨vk, vv, hx, hmv⟩ := hm
  obtain ⟨ak, ck, hvk, _⟩ := hmv.keys.form
  obtain ⟨av, cv, hvv, _⟩ := hmv.vals.form
  rw [List.length_map] at hvk hvv
  have HX := hide hx
  have HM := hide hmv
  have HS := hide (fun W (h : elStr.Owns B W vk (L.map Prod.fst)) => search_any (B := B) (v := vk) L hs k W h (by omega))
  subst hvk hvv
  obtain ⟨n, hn⟩ : ∃ n, n = L.length := ⟨_, rfl⟩
  obtain ⟨P, hP⟩ : ∃ P, P = posK k L := ⟨_, rfl⟩
  have HN := hide hn
  have HP := hide hP
  rw [← hn] at HX HM HS
  rw [← hP] at HS
  obtain ⟨c0, c1⟩ := HX.out.two
  have hlt := HX.out.lt
  clear hx hmv hP
  by_cases hh : hasK k L
  · rw [decide_eq_true hh] at HS
    have hnl : n ≤ 1099511627775 := by omega
    have hPl : P < n := by obtain ⟨h, _⟩ := hh; rw [HP.out, hn]; exact h
    have HE := hide (delK_yes hh)
    rw [← HP.out] at HE
    clear hh hn
    have HIK := hide (fun W (h : elStr.Owns B W (.slice ak n ck) (L.map Prod.fst)) (hb : B ≤ W.heap.size) => delete_any (L.map Prod.fst) P W h hb (by rw [List.length_map, ← HN.out]; exact hPl))
    have HIV := hide (fun W (h : elStr.Owns B W (.slice av n cv) (L.map Prod.snd)) (hb : B ≤ W.heap.size) => delete_any (L.map Prod.snd) P W h hb (by rw [List.length_map, ← HN.out]; exact hPl))
    rw [← HE.out.1, show ((P + 1 : Nat) : Int) = (P : Int) + 1 from rfl] at HIK
    rw [← HE.out.2, show ((P + 1 : Nat) : Int) = (P : Int) + 1 from rfl] at HIV
    go_enter Try.func39, Try.ntmps39
    go_wp2_with fail
    refine (HS.out _ HM.out.keys).mono ?_
    rintro e w1 ⟨rfl, hb1⟩
    have HB1 := hide hb1
    have HX1 := hide (HX.out.below hb1 HX.out.lt)
    have HM1 := hide (HM.out.below hb1 (Nat.le_refl _))
    clear hb1 HS c0 c1 hlt
    obtain ⟨c0, c1⟩ := HX1.out.two
    have hlt := HX1.out.lt
    go_wp2_with fail
    have hBa : B ≤ w1.heap.size := Nat.le_trans hB HB1.out.size
    refine (HIK.out _ HM1.out.keys hBa).mono ?_
    rintro e w2 ⟨v2, rfl, ho2, hk2, hb2, hf2⟩
    have HV2 := hide (HM1.out.vals.only hk2 (fun a ha e => HM1.out.apart a e ha))
    have HX2 := hide (HX1.out.only hk2 (own_ne_box HM1.out.keys HX1.out))
    have HT2 := hide ((Turn.of_below (g := g) HB1.out hB).trans (Turn.of_only hk2 (fun a ha => (HM1.out.keys.lt a ha).1) hBa))
    have HA2 := hide (show ∀ a, v2.ownBlock = some a → (Value.slice av n cv).ownBlock ≠ some a from fun a ha e => by
      rcases hf2 a ha with h | h
      · exact HM1.out.apart a h e
      · have := (HM1.out.vals.lt a e).2
        omega)
    have HO2 := hide ho2
    obtain ⟨a2, c2, rfl, _⟩ := ho2.form
    obtain ⟨n2, hn2⟩ : ∃ n2, n2 = ((delK k L).map Prod.fst).length := ⟨_, rfl⟩
    rw [← hn2] at HO2 HA2 ⊢
    clear hn2 ho2 hk2 hf2 HM1 HX1 HB1 hBa c0 c1 hlt HIK HX HM
    obtain ⟨c0, c1⟩ := HX2.out.two
    have z0 := HX2.out.frozen 0
    have hlt := HX2.out.lt
    go_wp2_with fail
    have HX3 := hide (show BoxV 59 (w2.setCell ⟨g, 0, none⟩ (.slice a2 n2 c2)) g #[.slice a2 n2 c2, .slice av n cv] from HX2.out.set (i := 0) _)
    have HO3 := hide (HO2.out.set_ne (p := ⟨g, 0, none⟩) (fun a ha e => own_ne_box HO2.out HX2.out (by rw [ha, e])) (.slice a2 n2 c2))
    have HV3 := hide (HV2.out.set_ne (p := ⟨g, 0, none⟩) (fun a ha e => own_ne_box HV2.out HX2.out (by rw [ha, e])) (.slice a2 n2 c2))
    have HT3 := hide (HT2.out.trans (Turn.set 0 w2 (.slice a2 n2 c2)))
    have hb3 : B ≤ (w2.setCell ⟨g, 0, none⟩ (.slice a2 n2 c2)).heap.size := by simp; exact hb2
    obtain ⟨W3, hW3⟩ : ∃ W3, W3 = w2.setCell ⟨g, 0, none⟩ (.slice a2 n2 c2) := ⟨_, rfl⟩
    rw [← hW3] at HX3 HO3 HV3 HT3 hb3 ⊢
    clear hW3 HX2 HO2 HV2 HT2 hb2 c0 c1 z0 hlt
    refine (HIV.out _ HV3.out hb3).mono ?_
    rintro e w4 ⟨v4, rfl, ho4, hk4, hb4, hf4⟩
    have HK4 := hide (HO3.out.only hk4 (fun a ha e => HA2.out a ha e))
    have HX4 := hide (HX3.out.only hk4 (own_ne_box HV3.out HX3.out))
    have HT4 := hide (HT3.out.trans (Turn.of_only hk4 (fun a ha => (HV3.out.lt a ha).1) hb3))
    have HA4 := hide (show ∀ a, (Value.slice a2 n2 c2).ownBlock = some a → v4.ownBlock ≠ some a from fun a ha e => by
      rcases hf4 a e with h | h
      · exact HA2.out a ha h
      · have := (HO3.out.lt a ha).2
        omega)
    have HO4 := hide ho4
    obtain ⟨a4, c4, rfl, _⟩ := ho4.form
    obtain ⟨n4, hn4⟩ : ∃ n4, n4 = ((delK k L).map Prod.snd).length := ⟨_, rfl⟩
    rw [← hn4] at HO4 HA4 ⊢
    clear hn4 ho4 hk4 hf4 HX3 HO3 HV3 HT3 HIV
    obtain ⟨c0, c1⟩ := HX4.out.two
    have z1 := HX4.out.frozen 1
    have hlt := HX4.out.lt
    go_wp2_with fail
    refine bodyPost_ret (results_none rfl _ _ _) rfl ?_
    exact ⟨rfl, ⟨_, _, show BoxV 59 (w4.setCell ⟨g, 1, none⟩ (.slice a4 n4 c4)) g #[.slice a2 n2 c2, .slice a4 n4 c4] from HX4.out.set (i := 1) _,
      HK4.out.set_ne (p := ⟨g, 1, none⟩) (fun a ha e => own_ne_box HK4.out HX4.out (by rw [ha, e])) _, HO4.out.set_ne (p := ⟨g, 1, none⟩) (fun a ha e => own_ne_box HO4.out HX4.out (by rw [ha, e])) _, HA4.out⟩, HT4.out.trans (Turn.set 1 w4 _)⟩
  · rw [decide_eq_false hh] at HS
    have HE := hide (show delK k L = L from if_neg hh)
    clear hh hn
    go_enter Try.func39, Try.ntmps39
    go_wp2_with fail
    refine (HS.out _ HM.out.keys).mono ?_
    rintro e w1 ⟨rfl, hb1⟩
    have HB1 := hide hb1
    have HX1 := hide (HX.out.below hb1 HX.out.lt)
    have HM1 := hide (HM.out.below hb1 (Nat.le_refl _))
    clear hb1 HS c0 c1 hlt
    go_wp2_with fail
    refine bodyPost_ret (results_none rfl _ _ _) rfl ?_
    exact ⟨rfl, by rw [HE.out]; exact ⟨_, _, HX1.out, HM1.out⟩, Turn.of_below HB1.out hB⟩

/-- a map in a box: its length grows by one at the most -/
theorem length_putK (k v : ByteArray) (L : List KV) : (putK k v L).length ≤ L.length + 1 := by
  unfold putK
  have := posK_le k L
  split <;> simp <;> omega
theorem length_delK (k : ByteArray) (L : List KV) : (delK k L).length ≤ L.length := by
  unfold delK
  have := posK_le k L
  split
  · simp; omega
  · exact Nat.le_refl _
theorem length_putO (L : List KV) (o : Opn) : (putO L o).length ≤ L.length + 1 := by
  unfold putO
  split
  · have := length_delK o.1 L; omega
  · exact length_putK _ _ _
/-- a sorted list, put entry by entry into an empty map, is itself -/
theorem putK_snoc {L : List KV} {x : KV} (h : Srt (L ++ [x])) : putK x.1 x.2 L = L ++ [x] := by
  have hp : posK x.1 L = L.length := by
    refine (posK_unique L.length (Nat.le_refl _) (fun i hi _ => ?_) (fun h => by omega)).symm
    have := List.pairwise_iff_getElem.1 h i L.length (by simp; omega) (by simp) (by omega)
    simpa [List.getElem_append, hi] using this
  have hn : ¬ hasK x.1 L := fun ⟨hl, _⟩ => by omega
  unfold putK
  rw [if_neg hn, hp, List.take_length, List.drop_length]
end Go.Proofs.Ytmdhihgfnlnbnaa
