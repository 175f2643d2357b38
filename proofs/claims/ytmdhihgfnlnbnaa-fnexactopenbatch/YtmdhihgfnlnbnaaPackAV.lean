/-
  Texts of this proof, put together: CutI, ReadS.
-/
import Derived.Test.YtmdhihgfnlnbnaaPackAU
import Derived.Test.YtmdhihgfnlnbnaaPackAG
import Derived.Test.YtmdhihgfnlnbnaaPackAH
import Derived.Test.YtmdhihgfnlnbnaaPackAQ
import Derived.Test.YtmdhihgfnlnbnaaPackAD

/-
  What impl.cutOp needs of its boxes.
-/
namespace Go.Proofs.Ytmdhihgfnlnbnaa
open Go.ChangeShapes Go.WideShapes Go.ChangeAt Go.RowKit

theorem res_op {fn : Func} {p q : Tmp} (h : fn.results = #[.cell p 62, .tmp q]) (tmps : Array Value) (w : World) (g : Nat) (ht : tmps.getD p undef = .pointer (some ⟨g, 0, none⟩)) {v0 v1 v2 : Value} (hx : BoxV 62 w g #[v0, v1, v2]) (u : Value) (hu : tmps.getD q undef = u) :
    (results fn tmps).run Try.prog w = .ok (.tuple #[.agg #[v0, v1, v2], u]) w := by
  obtain ⟨c0, c1, c2⟩ := hx.three
  rw [Array.getD_eq_getD_getElem?] at ht hu
  simp only [results, h]
  simp [ht, hu, go_sem, c0, c1, c2]
def CutOPost (w : World) (o : Opn) (b : List UInt8) (e : Ending) (w' : World) : Prop := e = .returned (.tuple #[.agg #[.string o.1, .bool o.2.1, .string o.2.2], .string ⟨b.toArray⟩]) ∧ Below w.heap.size w w'
end Go.Proofs.Ytmdhihgfnlnbnaa

/-
  Contract of spec.ReadBatch.
-/
namespace Go.Proofs.Ytmdhihgfnlnbnaa
open Go.ChangeShapes Go.WideShapes Go.ChangeAt Go.RowKit

theorem nil_not_bat {s : List UInt8} (h : parseL s = []) : readM s = [] ∧ readQ s = false := by
  have hb : ¬ isBat s := fun hb => by
    have := (isBat_ok hb).1
    rw [h] at this
    simp at this
  exact ⟨if_neg hb, decide_eq_false hb⟩
theorem parse_none {s : List UInt8} (h : (varsF s 1 0).2 < 0) : parseL s = [] := if_pos (.inl h)
theorem parse_far {s : List UInt8} {x q : Nat} (he : varsF s 1 0 = ([x], (q : Int))) (h : 6 < x) : parseL s = [] := by
  unfold parseL
  rw [he]
  exact if_pos (.inr h)
theorem parse_of {s : List UInt8} {x q : Nat} (he : varsF s 1 0 = ([x], (q : Int))) (h : x ≤ 6) : parseL s = ((opsAt s x q).map Prod.fst).getD [] := by
  unfold parseL
  rw [he]
  exact (if_neg (by rw [List.headD_cons]; omega)).trans (by rw [List.headD_cons, Int.toNat_natCast])
theorem vars_nil : (varsF [] 1 0).2 < 0 := by decide
theorem show_other {s : List UInt8} {l : List Opn} (h : parseL s = l) (hne : showL l ≠ s) : readM s = [] ∧ readQ s = false := by
  have hb : ¬ isBat s := fun hb => hne (by rw [← h]; exact hb.2)
  exact ⟨if_neg hb, decide_eq_false hb⟩
theorem show_same {s : List UInt8} {l : List Opn} (h : parseL s = l) (hs : s ≠ []) (he : showL l = s) : readM s = l ∧ readQ s = true := by
  have hb : isBat s := ⟨hs, by rw [h]; exact he⟩
  exact ⟨by rw [readM, if_pos hb, h], decide_eq_true hb⟩

theorem opsAt_out {s : List UInt8} {n p : Nat} (h : s.length ≤ p) : opsAt s (n + 1) p = none := by rw [opsAt, if_pos h]
theorem opsAt_bad {s : List UInt8} {n p : Nat} (h : (opAt s p).2 < 0) : opsAt s (n + 1) p = none := by
  rw [opsAt]
  by_cases h0 : s.length ≤ p
  · rw [if_pos h0]
  · rw [if_neg h0, if_pos h]
theorem opsAt_next {s : List UInt8} {n p : Nat} {o : Opn} {e : Nat} (h0 : p < s.length) (h : opAt s p = (o, (e : Int))) : opsAt s (n + 1) p = (opsAt s n e).map fun r => (o :: r.1, r.2) := by
  rw [opsAt, if_neg (by omega), h]
  simp only
  rw [if_neg (by omega), Int.toNat_natCast]
theorem opAt_del {s : List UInt8} {p : Nat} (h : s[p]? = some 1) : opAt s p = ((⟨(takeB s (p + 1 : Nat)).toArray⟩, true, ⟨#[]⟩), takeE s (p + 1 : Nat)) := if_pos h
theorem opAt_put {s : List UInt8} {p : Nat} (h : ¬ s[p]? = some 1) : opAt s p = ((⟨(takeB s (p + 1 : Nat)).toArray⟩, false, ⟨(takeB s (takeE s (p + 1 : Nat))).toArray⟩), takeE s (takeE s (p + 1 : Nat))) := if_neg h

theorem own_ne_words {B : Nat} {w : World} {v : Value} {L : List Opn} {g : Nat} {tl : List Value} {X : List Nat} (h : elOp.Owns B w v L) (hw : Words .i64 3 tl w g X) : v.ownBlock ≠ some g := by
  obtain ⟨hl, ⟨rfl, h0⟩ | ⟨g', cap, cur, rfl, hg, hh, r⟩⟩ := h
  · intro e
    cases e
  · intro e
    obtain rfl : g' = g := by
      simpa [Value.ownBlock] using e
    unfold Words at hw
    rw [hw] at hh
    injection hh with hh
    injection hh with _ hT _
    revert hT
    decide
theorem Words.kept {w w' : World} {k : IntKind} {T : TypeId} {tl : List Value} {g : Nat} {X : List Nat} (h : Words k T tl w g X) (hb : w'.heap[g]? = w.heap[g]?) : Words k T tl w' g X := hb.trans h
theorem Words.lt {w : World} {k : IntKind} {T : TypeId} {tl : List Value} {g : Nat} {X : List Nat} (h : Words k T tl w g X) : g < w.heap.size := (Array.getElem?_eq_some_iff.1 h).1

def ReadBPost (w : World) (S : List UInt8) (e : Ending) (w' : World) : Prop :=
  ∃ v, e = .returned (.tuple #[v, .bool (readQ S)]) ∧ elOp.Owns w.heap.size w' v (readM S) ∧ Below w.heap.size w w'
theorem ReadBPost.no {w w' : World} {S : List UInt8} (h : readM S = [] ∧ readQ S = false) (v : Value) (ho : elOp.Owns w.heap.size w' v []) (hb : Below w.heap.size w w') : ReadBPost w S (.returned (.tuple #[v, .bool false])) w' :=
  ⟨v, by rw [h.2], by rw [h.1]; exact ho, hb⟩
theorem litOp (B : Nat) (w : World) (hB : B ≤ w.heap.size) : elOp.Owns B (w.alloc (.cells #[] 62)) (.slice (some ⟨w.heap.size, 0, none⟩) 0 0) [] :=
  El.Owns.lit B w [] #[] 0 rfl rfl hB (by decide)
theorem walk_mark : True := trivial
set_option maxHeartbeats 4000000 in
set_option maxRecDepth 20000 in
theorem sRead_any (s : ByteArray) (hm : s.size ≤ 1048576) (w : World) :
    Calls Try.prog 20 #[.string s] w (ReadBPost w (bl s)) := by
  have hm' : s.size ≤ 1099511627775 := by omega
  have HC := hide (fun W => l6Vars_any s hm' 0 1 (by omega) W)
  rw [show (1 : Int).toNat = 1 from rfl] at HC
  have HL0 := hide (litOp w.heap.size w (Nat.le_refl _))
  rcases vars1 (bl s) 0 with hq | ⟨x, q, he, hql, hx⟩
  · have HN1 := hide (nil_not_bat (parse_none hq))
    obtain ⟨L, hL⟩ : ∃ L, L = (varsF (bl s) 1 0).1 := ⟨_, rfl⟩
    obtain ⟨Q, hQ⟩ : ∃ Q, Q = (varsF (bl s) 1 0).2 := ⟨_, rfl⟩
    rw [← hL, ← hQ] at HC
    rw [← hQ] at hq
    clear hL hQ
    have hd : decide (Q < 0) = true := decide_eq_true hq
    go_enter Try.func20, Try.ntmps20
    go_wp2_with fail
    refine (HC.out _).mono ?_
    rintro e w1 ⟨v, rfl, ho, hb1⟩
    have HB1 := hide (((Below.refl _ w).alloc (Nat.le_refl _) _).trans (hb1.mono (by simp)))
    have HO1 := hide (HL0.out.below hb1 (Nat.le_refl _))
    clear hb1 ho
    go_wp2_with fail
    go_ret2
    exact ReadBPost.no HN1.out _ HO1.out HB1.out
  rw [he] at HC
  rw [bl_len] at hql
  have HNE := hide (show bl s ≠ [] from fun h => by
    have h1 := vars_nil
    rw [← h, he] at h1
    simp only at h1
    omega)
  by_cases h6 : 6 < x
  · have HN1 := hide (nil_not_bat (parse_far he h6))
    clear he
    have hd : decide (6 < x) = true := decide_eq_true h6
    go_enter Try.func20, Try.ntmps20
    go_wp2_with fail
    refine (HC.out _).mono ?_
    rintro e w1 ⟨v, rfl, ho, hb1⟩
    obtain ⟨g, cap, tl, rfl, hgb, hglt, hW⟩ := ho.words (by simp)
    have c0 : w1.cell? ⟨g, 0, none⟩ = some (.int .i64 (x : Int)) := hW.cell 0 (by simp)
    have HB1 := hide (((Below.refl _ w).alloc (Nat.le_refl _) _).trans (hb1.mono (by simp)))
    have HO1 := hide (HL0.out.below hb1 (Nat.le_refl _))
    clear hb1 ho hW
    go_wp2_with fail
    go_ret2
    exact ReadBPost.no HN1.out _ HO1.out HB1.out
  have HPA := hide (parse_of he (by omega))
  clear he
  go_enter Try.func20, Try.ntmps20
  go_wp2_with fail
  refine (HC.out _).mono ?_
  rintro e w1 ⟨v, rfl, ho, hb1⟩
  obtain ⟨g, cap, tl, rfl, hgb, hglt, hW⟩ := ho.words (by simp)
  have c0 : w1.cell? ⟨g, 0, none⟩ = some (.int .i64 (x : Int)) := hW.cell 0 (by simp)
  have HW1 := hide hW
  have HB1 := hide (((Below.refl _ w).alloc (Nat.le_refl _) _).trans (hb1.mono (by simp)))
  have HO1 := hide (HL0.out.below hb1 (Nat.le_refl _))
  clear hb1 ho hW HL0
  go_wp2_with fail
  clear c0
  go_loopw [4, 6, 7] (fun o t i wr => ∃ (j p : Nat) (a' : Option Addr) (c' : Nat) (pre : List Opn), o = .slice a' j c' ∧ t = .int .i64 p ∧ i = .int .i64 j ∧ j ≤ x ∧ pre.length = j ∧ Hid (opsAt (bl s) x q = (opsAt (bl s) (x - j) p).map fun r => (pre ++ r.1, r.2)) ∧ Hid (elOp.Owns w.heap.size wr (.slice a' j c') pre) ∧ Hid (Below w.heap.size w wr) ∧ Hid (Words .i64 3 tl wr g [x])) (fun _ _ i _ => x - (intOf i).toNat)
  case atStart => exact ⟨0, q, _, _, [], rfl, rfl, rfl, by omega, rfl, by simp [Hid], HO1, HB1, HW1⟩
  case round =>
    obtain ⟨j, p, a', c', pre, rfl, rfl, rfl, hj, hpre, HR, HO, HB, HW⟩ := hrel
    have c0 : wr.cell? ⟨g, 0, none⟩ = some (.int .i64 (x : Int)) := HW.out.cell 0 (by simp)
    have hs := HB.out.size
    have hgw := HW.out.lt
    by_cases hlt : j < x
    · obtain ⟨r, hr⟩ : ∃ r, x - j = r + 1 := ⟨x - j - 1, by omega⟩
      by_cases hp : s.size ≤ p
      · have HN1 := hide (nil_not_bat (s := bl s) (by
          rw [HPA.out, HR.out, hr, opsAt_out (by rw [bl_len]; exact hp)]
          rfl))
        go_wp2_with fail
        go_ret2
        exact ReadBPost.no HN1.out _ (litOp _ _ hs) (HB.out.alloc hs _)
      · have hps : p < s.size := by omega
        have HP := hide (show p < (bl s).length by rw [bl_len]; exact hps)
        have hat : (bl s)[p]? = some (s[p]'hps) := by
          rw [List.getElem?_eq_getElem HP.out]
          rfl
        by_cases h1 : (bl s)[p]? = some 1
        · have hc1 : (((s[p]'hps).toNat : Int) == 1) = true := by
            rw [hat] at h1
            rw [Option.some.inj h1]
            rfl
          clear hat
          have HOP := hide (opAt_del (s := bl s) (p := p) h1)
          obtain ⟨kb, hkb⟩ : ∃ kb, kb = takeB (bl s) ((p + 1 : Nat) : Int) := ⟨_, rfl⟩
          obtain ⟨E, hE⟩ : ∃ E, E = takeE (bl s) ((p + 1 : Nat) : Int) := ⟨_, rfl⟩
          have HT1 := hide (fun W => l6Take_any s hm' ((p + 1 : Nat) : Int) W)
          rw [← hkb, ← hE] at HOP HT1
          clear hkb hE h1
          by_cases hE0' : E < 0
          · have hd : decide (E < 0) = true := decide_eq_true hE0'
            have HN1 := hide (nil_not_bat (s := bl s) (by
              rw [HPA.out, HR.out, hr, opsAt_bad (by rw [HOP.out]; exact hE0')]
              rfl))
            go_wp2_with fail
            refine (HT1.out _).mono ?_
            rintro e w2 ⟨rfl, hb2⟩
            have HB2 := hide (HB.out.trans (hb2.mono HB.out.size))
            have HO2 := hide (HO.out.below hb2 (Nat.le_refl _))
            have HW2 := hide (HW.out.kept (hb2.block g HW.out.lt))
            clear hb2
            have hs2 := HB2.out.size
            go_wp2_with fail
            go_ret2
            exact ReadBPost.no HN1.out _ (litOp _ _ hs2) (HB2.out.alloc hs2 _)
          · have hd : decide (E < 0) = false := decide_eq_false hE0'
            obtain ⟨q', rfl⟩ : ∃ q' : Nat, E = q' := ⟨E.toNat, by omega⟩
            have HR1 := hide (show opsAt (bl s) x q = (opsAt (bl s) (x - (j + 1)) q').map fun r => ((pre ++ [(⟨kb.toArray⟩, true, ⟨#[]⟩)]) ++ r.1, r.2) by
              rw [HR.out, hr, opsAt_next HP.out HOP.out, Option.map_map, show x - (j + 1) = r by omega]
              congr 1
              funext z
              simp)
            go_wp2_with fail
            refine (HT1.out _).mono ?_
            rintro e w2 ⟨rfl, hb2⟩
            have HB2 := hide (HB.out.trans (hb2.mono HB.out.size))
            have HO2 := hide (HO.out.below hb2 (Nat.le_refl _))
            have HW2 := hide (HW.out.kept (hb2.block g HW.out.lt))
            clear hb2
            have HOa := hide (HO2.out.alloc (.cells #[.string ⟨kb.toArray⟩, .bool true, .string ⟨#[]⟩] 62))
            have HSa := hide (El.Holds.rd (El.Holds.new (e := elOp) w2 [(⟨kb.toArray⟩, true, ⟨#[]⟩)]))
            have HBa := hide (HB2.out.alloc HB2.out.size (.cells #[.string ⟨kb.toArray⟩, .bool true, .string ⟨#[]⟩] 62))
            have hBa : w.heap.size ≤ (w2.alloc (.cells #[.string ⟨kb.toArray⟩, .bool true, .string ⟨#[]⟩] 62)).heap.size := HBa.out.size
            have hjl : (pre ++ [((⟨kb.toArray⟩, true, ⟨#[]⟩) : Opn)]).length = j + 1 := by rw [List.length_append, hpre]; rfl
            go_wp2_with (at_builtin; refine El.append rfl (.tmp 61) (.tmp 66) 25 rfl Try.underlying25 _ _ infoOp rfl (by decide) (by decide) w.heap.size w _ _ (some ⟨w2.heap.size, 0, none⟩) 1 1 pre [(⟨kb.toArray⟩, true, ⟨#[]⟩)] rfl rfl rfl (fun h => by cases h) HOa HSa (fun p hp => ⟨_, _, (Option.some.inj hp).symm⟩) HBa hBa _ (j + 1) rfl hjl (by omega) ?_; intro a5 c5 w5 HO5 HB5 HG5 hz5)
            have HW5 : Hid (Words .i64 3 tl w5 g [x]) := HW2.out.kept ((HG5.out.block g (by have := HW2.out.lt; simp; omega) (fun e => own_ne_words HO2.out HW2.out e.symm)).trans (Below.heap_alloc w2 _ g HW2.out.lt))
            go_wp2_with fail
            go_roundw
            case rel => exact ⟨j + 1, q', a5, c5, _, rfl, rfl, by go_num, by omega, hjl, HR1, HO5, HB5, HW5⟩
            case measure => simp [intOf]; omega
        · have hc1 : (((s[p]'hps).toNat : Int) == 1) = false := by
            rw [beq_eq_false_iff_ne]
            intro h
            apply h1
            rw [hat]
            congr 1
            apply UInt8.toNat_inj.1
            have : (1 : UInt8).toNat = 1 := rfl
            omega
          clear hat
          have HOP := hide (opAt_put (s := bl s) (p := p) h1)
          obtain ⟨kb, hkb⟩ : ∃ kb, kb = takeB (bl s) ((p + 1 : Nat) : Int) := ⟨_, rfl⟩
          obtain ⟨E0, hE0⟩ : ∃ E0, E0 = takeE (bl s) ((p + 1 : Nat) : Int) := ⟨_, rfl⟩
          have HT1 := hide (fun W => l6Take_any s hm' ((p + 1 : Nat) : Int) W)
          rw [← hkb, ← hE0] at HOP HT1
          obtain ⟨vb, hvb⟩ : ∃ vb, vb = takeB (bl s) E0 := ⟨_, rfl⟩
          obtain ⟨E, hE⟩ : ∃ E, E = takeE (bl s) E0 := ⟨_, rfl⟩
          have HT2 := hide (fun W => l6Take_any s hm' E0 W)
          rw [← hvb, ← hE] at HOP HT2
          clear hkb hE0 hvb hE h1
          by_cases hE0' : E < 0
          · have hd : decide (E < 0) = true := decide_eq_true hE0'
            have HN1 := hide (nil_not_bat (s := bl s) (by
              rw [HPA.out, HR.out, hr, opsAt_bad (by rw [HOP.out]; exact hE0')]
              rfl))
            go_wp2_with fail
            refine (HT1.out _).mono ?_
            rintro e w2 ⟨rfl, hb2⟩
            have HB2 := hide (HB.out.trans (hb2.mono HB.out.size))
            have HO2 := hide (HO.out.below hb2 (Nat.le_refl _))
            have HW2 := hide (HW.out.kept (hb2.block g HW.out.lt))
            clear hb2
            go_wp2_with fail
            refine (HT2.out _).mono ?_
            rintro e w3 ⟨rfl, hb3⟩
            have HB3 := hide (HB2.out.trans (hb3.mono HB2.out.size))
            have HO3 := hide (HO2.out.below hb3 (Nat.le_refl _))
            have HW3 := hide (HW2.out.kept (hb3.block g HW2.out.lt))
            clear hb3
            have hs3 := HB3.out.size
            go_wp2_with fail
            go_ret2
            exact ReadBPost.no HN1.out _ (litOp _ _ hs3) (HB3.out.alloc hs3 _)
          · have hd : decide (E < 0) = false := decide_eq_false hE0'
            obtain ⟨q', rfl⟩ : ∃ q' : Nat, E = q' := ⟨E.toNat, by omega⟩
            have HR1 := hide (show opsAt (bl s) x q = (opsAt (bl s) (x - (j + 1)) q').map fun r => ((pre ++ [(⟨kb.toArray⟩, false, ⟨vb.toArray⟩)]) ++ r.1, r.2) by
              rw [HR.out, hr, opsAt_next HP.out HOP.out, Option.map_map, show x - (j + 1) = r by omega]
              congr 1
              funext z
              simp)
            go_wp2_with fail
            refine (HT1.out _).mono ?_
            rintro e w2 ⟨rfl, hb2⟩
            have HB2 := hide (HB.out.trans (hb2.mono HB.out.size))
            have HO2 := hide (HO.out.below hb2 (Nat.le_refl _))
            have HW2 := hide (HW.out.kept (hb2.block g HW.out.lt))
            clear hb2
            go_wp2_with fail
            refine (HT2.out _).mono ?_
            rintro e w3 ⟨rfl, hb3⟩
            have HB3 := hide (HB2.out.trans (hb3.mono HB2.out.size))
            have HO3 := hide (HO2.out.below hb3 (Nat.le_refl _))
            have HW3 := hide (HW2.out.kept (hb3.block g HW2.out.lt))
            clear hb3
            have HOa := hide (HO3.out.alloc (.cells #[.string ⟨kb.toArray⟩, .bool false, .string ⟨vb.toArray⟩] 62))
            have HSa := hide (El.Holds.rd (El.Holds.new (e := elOp) w3 [(⟨kb.toArray⟩, false, ⟨vb.toArray⟩)]))
            have HBa := hide (HB3.out.alloc HB3.out.size (.cells #[.string ⟨kb.toArray⟩, .bool false, .string ⟨vb.toArray⟩] 62))
            have hBa : w.heap.size ≤ (w3.alloc (.cells #[.string ⟨kb.toArray⟩, .bool false, .string ⟨vb.toArray⟩] 62)).heap.size := HBa.out.size
            have hjl : (pre ++ [((⟨kb.toArray⟩, false, ⟨vb.toArray⟩) : Opn)]).length = j + 1 := by rw [List.length_append, hpre]; rfl
            go_wp2_with (at_builtin; refine El.append rfl (.tmp 61) (.tmp 66) 25 rfl Try.underlying25 _ _ infoOp rfl (by decide) (by decide) w.heap.size w _ _ (some ⟨w3.heap.size, 0, none⟩) 1 1 pre [(⟨kb.toArray⟩, false, ⟨vb.toArray⟩)] rfl rfl rfl (fun h => by cases h) HOa HSa (fun p hp => ⟨_, _, (Option.some.inj hp).symm⟩) HBa hBa _ (j + 1) rfl hjl (by omega) ?_; intro a5 c5 w5 HO5 HB5 HG5 hz5)
            have HW5 : Hid (Words .i64 3 tl w5 g [x]) := HW3.out.kept ((HG5.out.block g (by have := HW3.out.lt; simp; omega) (fun e => own_ne_words HO3.out HW3.out e.symm)).trans (Below.heap_alloc w3 _ g HW3.out.lt))
            go_wp2_with fail
            go_roundw
            case rel => exact ⟨j + 1, q', a5, c5, _, rfl, rfl, by go_num, by omega, hjl, HR1, HO5, HB5, HW5⟩
            case measure => simp [intOf]; omega
    · obtain rfl : j = x := by omega
      have HPB := hide (show parseL (bl s) = pre by
        rw [HPA.out, HR.out, Nat.sub_self]
        simp [opsAt])
      by_cases h0 : j = 0
      · subst h0
        have HN1 := hide (nil_not_bat (s := bl s) (by
          rw [HPB.out]
          exact List.eq_nil_of_length_eq_zero hpre))
        go_wp2_with fail
        go_ret2
        exact ReadBPost.no HN1.out _ (litOp _ _ hs) (HB.out.alloc hs _)
      · have hj0 : ((j : Int) == 0) = false := by rw [beq_eq_false_iff_ne]; omega
        obtain ⟨a6, c6, he6, hrd, _⟩ := HO.out.form
        have HRD := hide hrd
        rw [hpre] at he6
        have HSH := hide (fun W b c (h : elOp.Rd W W.heap.size b pre) => sShow_any b c pre W h (by rw [hpre]; omega))
        rw [hpre] at HSH
        obtain ⟨VS, hVS⟩ : ∃ VS, VS = showL pre := ⟨_, rfl⟩
        rw [← hVS] at HSH
        have HVS := hide hVS
        injection he6 with e6 e7 e8
        clear e7
        subst e6
        subst e8
        clear hrd hVS
        by_cases hsh : VS = bl s
        · have HN2 := hide (show_same HPB.out HNE.out (HVS.out.symm.trans hsh))
          have hbe : (!(VS == s.toList)) = false := by rw [Bool.not_eq_false', beq_iff_eq, ByteArray.toList_eq]; exact hsh
          clear hsh
          go_wp2_with fail
          refine (HSH.out _ _ _ HRD.out).mono ?_
          rintro e w2 ⟨rfl, hb2⟩
          have HB2 := hide (HB.out.trans (hb2.mono HB.out.size))
          have HO2 := hide (HO.out.below hb2 (Nat.le_refl _))
          clear hb2
          go_wp2_with fail
          go_ret2
          exact ⟨_, by rw [HN2.out.2]; rfl, by rw [HN2.out.1]; exact HO2.out, HB2.out⟩
        · have HN1 := hide (show_other HPB.out (fun h => hsh (HVS.out.trans h)))
          have hbe : (!(VS == s.toList)) = true := by rw [ne_str hsh]; rfl
          clear hsh
          go_wp2_with fail
          refine (HSH.out _ _ _ HRD.out).mono ?_
          rintro e w2 ⟨rfl, hb2⟩
          have HB2 := hide (HB.out.trans (hb2.mono HB.out.size))
          have hs2 := HB2.out.size
          clear hb2
          go_wp2_with fail
          go_ret2
          exact ReadBPost.no HN1.out _ (litOp _ _ hs2) (HB2.out.alloc hs2 _)
end Go.Proofs.Ytmdhihgfnlnbnaa
